/- A map of texts by keys, as a list of entries wants it: what it has for each of them; what a store leaves. -/
import Derived.Test.YtlefcjgemojhpabTreePlNum
import Derived.Maps.StringElems
import Derived.Maps.OwnOps
namespace Go.Proofs.Ytlefcjgemojhpab.PTree
open Go Go.RowKit Go.Maps PPool
set_option maxRecDepth 100000
theorem law3 : Keyed Try.prog 3 := int_keyed Try.underlying3
theorem zero9 (w : World) : (zeroValue 9).run Try.prog w = .ok (.string ⟨#[]⟩) w := by kernel_rfl
def Says (D : DataW Unit) (L : List En) : Prop := ∀ x ∈ L, ∀ z, D.atKey (.int .i64 x.k) z = .lit (.string x.t.data.toList)
def TxAt (w : World) (B n : Nat) (L : List En) : Prop := ∃ D : DataW Unit, w.ownsMap Try.prog 3 (plainElem Try.prog 9) B n D ∧ Says D L
theorem bytes_ext {s t : ByteArray} (h : s.data.toList = t.data.toList) : s = t := by
  cases s; cases t
  simp only at h
  rw [Array.ext' h]
theorem TxAt.get {w : World} {B n : Nat} {L : List En} (h : TxAt w B n L) {x : En} (hx : x ∈ L) (hw : (Lit.int .i64 x.k).wf = true) : (Instr.lookup 48 (.map (some B)) (.int .i64 x.k) false).run Try.prog w = .ok (.string x.t) w := by
  obtain ⟨D, hm, ha⟩ := h
  obtain ⟨v, ps, hrun, hv⟩ := hm.lookup law3 Try.underlying48 (zero9 w) (plainElem_string (s := ⟨#[]⟩) Try.underlying9 (by decide)) (Maps.keyOf_int_mk Try.underlying3 hw)
  rw [ha x hx] at hv
  obtain ⟨s, rfl, e, _⟩ := plainElem_string_inv Try.underlying9 hv
  have e1 : x.t.data.toList = s.data.toList := by
    have := congrArg Prod.fst e
    simpa using this
  rw [bytes_ext e1]
  exact hrun
theorem key_lit (x : Int) : WideAt.IsKeyLit (.int .i64 x) := by trivial
theorem TxAt.next {w w' : World} {B n m : Nat} {D : DataW Unit} {L L' : List En} (hm : w.ownsMap Try.prog 3 (plainElem Try.prog 9) B n D) (ha : Says D L) {k : Int} {t : ByteArray}
    (hm' : w'.ownsMap Try.prog 3 (plainElem Try.prog 9) B m (D.put (.int .i64 k) (.lit (.string t.data.toList)))) (hL : ∀ y ∈ L', y = ⟨k, t⟩ ∨ (y ∈ L ∧ y.k ≠ k)) : TxAt w' B m L' := by
  refine ⟨_, hm', fun y hy z => ?_⟩
  rcases hL y hy with rfl | ⟨h1, h2⟩
  · exact atKey_put_same hm.isMap (key_lit _) _ _
  · rw [atKey_put_other (fun e => h2 (by injection e))]
    exact ha y h1 z
theorem TxAt.sub {w : World} {B n : Nat} {L L' : List En} (h : TxAt w B n L) (hL : ∀ y ∈ L', y ∈ L) : TxAt w B n L' := by
  obtain ⟨D, h1, h2⟩ := h
  exact ⟨D, h1, fun y hy => h2 y (hL y hy)⟩
theorem TxAt.mono {w : World} {B n m : Nat} {L : List En} (h : TxAt w B n L) (hn : n ≤ m) : TxAt w B m L := by
  obtain ⟨D, h1, h2⟩ := h
  exact ⟨D, h1.mono hn, h2⟩
theorem TxAt.keep {w w' : World} {B n : Nat} {L : List En} (h : TxAt w B n L) (hb : w'.heap[B]? = w.heap[B]?) : TxAt w' B n L := by
  obtain ⟨D, ⟨es, clock, m1, m2⟩, h2⟩ := h
  exact ⟨D, ⟨es, clock, hb.trans m1, m2⟩, h2⟩
theorem TxAt.lt {w : World} {B n : Nat} {L : List En} (h : TxAt w B n L) : B < w.heap.size := by
  obtain ⟨D, h1, h2⟩ := h
  exact h1.lt
end Go.Proofs.Ytlefcjgemojhpab.PTree
