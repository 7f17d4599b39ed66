/- What has ended, walked: (ends).behind, .committed, .allCommitted, run.endsOf: they answer what the plain functions say, and nothing that was there has turned. Conditions: a transaction's number is one of twelve. -/
import Derived.Test.YtlalpahfoafhoabRunMem
namespace Go.Proofs.Ytlalpahfoafhoab.PRun
open Go Go.RowKit PPool PGraph
set_option maxRecDepth 100000

theorem ends_info : (Try.prog.info? 135).map (fun i => (i.zero, i.size)) = some (some (.agg (eA fun _ => 0)), 12) := by kernel_rfl
theorem bools_info : (Try.prog.info? 130).map (fun i => (i.zero, i.size)) = some (some (.agg (bA fun _ => false)), 12) := by kernel_rfl
theorem pairs_info : (Try.prog.info? 132).map (fun i => (i.zero, i.size)) = some (some (.agg (pA fun _ _ => false)), 144) := by kernel_rfl

/-- An array that lies in a block of its own. -/
def ArrAt (w : World) (b : Nat) (A : Array Value) : Prop := ∃ T, w.heap[b]? = some (.cells A T (0, 0))
theorem ArrAt.below {w w' : World} {b : Nat} {A : Array Value} (h : ArrAt w b A) (hb : Below w.heap.size w w') : ArrAt w' b A := by
  obtain ⟨T, h⟩ := h
  exact ⟨T, (hb.block b (Array.getElem?_eq_some_iff.1 h).1).trans h⟩
theorem ArrAt.keep {w w' : World} {b : Nat} {A : Array Value} (h : ArrAt w b A) (hb : w'.heap[b]? = w.heap[b]?) : ArrAt w' b A := by
  obtain ⟨T, h⟩ := h
  exact ⟨T, hb.trans h⟩
theorem ArrAt.new (w : World) (A : Array Value) (T : TypeId) : ArrAt (w.alloc (.cells A T)) w.heap.size A := ⟨T, heap_alloc_new w _⟩
theorem ArrAt.cell {w : World} {b : Nat} {A : Array Value} (h : ArrAt w b A) {j : Nat} {v : Value} (hj : A[j]? = some v) : w.cell? ⟨b, j, none⟩ = some v := by
  obtain ⟨T, h⟩ := h
  rw [cell_of_row w b j A T _ h]; exact hj
theorem ArrAt.fz {w : World} {b : Nat} {A : Array Value} (h : ArrAt w b A) (i : Nat) : w.frozen? ⟨b, i, none⟩ = false := by
  obtain ⟨T, h⟩ := h
  simp [World.frozen?, h]
theorem ArrAt.put {w : World} {b : Nat} {A : Array Value} (h : ArrAt w b A) (j : Nat) (v : Value) : ArrAt (w.setCell ⟨b, j, none⟩ v) b (A.setIfInBounds j v) := by
  obtain ⟨T, h⟩ := h
  refine ⟨T, ?_⟩
  rw [setCell_eq_setRow w b j A T _ v h]
  exact setRow_heap w b A _ T _ h
theorem ArrAt.range {w : World} {b : Nat} {A : Array Value} (h : ArrAt w b A) : w.rangeAt b 0 A.toList := fun j v hv => by
  rw [Nat.zero_add]
  exact h.cell (by simpa using hv)
theorem ArrAt.there {w : World} {b : Nat} {A : Array Value} (h : ArrAt w b A) : w.there b 0 A.size := fun j hj => by
  rw [Nat.zero_add]
  exact ⟨by rw [h.cell (Array.getElem?_eq_getElem hj)]; rfl, h.fz j⟩
theorem eA_at (E : Nat → Int) {t : Nat} (ht : t < 12) : (eA E)[t]? = some (.int .i64 (E t)) := by simp [eA, ht]
theorem bA_at (R : Nat → Bool) {t : Nat} (ht : t < 12) : (bA R)[t]? = some (.bool (R t)) := by simp [bA, ht]
theorem eA_set (E : Nat → Int) (t : Nat) (c : Int) : (eA E).setIfInBounds t (.int .i64 c) = eA fun s => if s = t then c else E s := by
  apply Array.ext_getElem?
  intro j
  rw [Array.getElem?_setIfInBounds]
  by_cases hj : j < 12
  · rw [eA_at _ hj, eA_at _ hj]
    by_cases e : t = j
    · subst e
      rw [if_pos rfl, if_pos (by rw [eA_size]; exact hj), if_pos rfl]
    · rw [if_neg e, if_neg (fun h => e h.symm)]
  · have h1 : ∀ F, (eA F)[j]? = none := fun F => Array.getElem?_eq_none (by rw [eA_size]; omega)
    rw [h1, h1]
    split
    · rw [if_neg (by rw [eA_size]; omega)]
    · rfl

/-- Whole arrays, kept from the walk's opening them cell by cell. -/
def loadE (v : Value) : Sem Value := Instr.loadAt 135 v
theorem loadE_pre (v : Value) : Instr.loadAt 135 v = loadE v := rfl
theorem run_loadE {W : World} {b : Nat} {E : Nat → Int} (h : ArrAt W b (eA E)) : (loadE (.pointer (some ⟨b, 0, none⟩))).run Try.prog W = .ok (.agg (eA E)) W := by
  have := run_loadAt_mid (P := Try.prog) W b 0 135 (eA E).toList _ h.range Try.underlying135 rfl (by rw [Array.length_toList, eA_size]; exact (zero_of_info ends_info).2)
  rwa [Array.toArray_toList] at this
def storeE (v x : Value) : Sem Unit := Instr.storeAt 135 v x
theorem storeE_pre (v x : Value) : Instr.storeAt 135 v x = storeE v x := rfl
theorem eA_one (E : Nat → Int) : (eA E).all (·.oneCell') = true := by
  refine Array.all_eq_true_iff_forall_mem.2 fun v hv => ?_
  simp only [eA, List.mem_toArray, List.mem_map] at hv
  obtain ⟨t, _, rfl⟩ := hv
  rfl
theorem run_storeE {W : World} {b : Nat} {E0 E : Nat → Int} (h : ArrAt W b (eA E0)) : (storeE (.pointer (some ⟨b, 0, none⟩)) (.agg (eA E))).run Try.prog W = .ok () (W.setRow b (eA E)) := by
  obtain ⟨T, h⟩ := h
  have := run_storeVar_row (P := Try.prog) W b T 135 (eA E0) (eA E) h (by rw [eA_size]; exact (zero_of_info ends_info).2) (by rw [eA_size, eA_size]) (eA_one E)
  unfold storeE
  simp only [Instr.storeAt, Instr.sureAddr, Sem.run_bind, Sem.run_pure, Result.andThen_ok, this]
theorem ArrAt.row {W : World} {b : Nat} {A : Array Value} (h : ArrAt W b A) (A' : Array Value) : ArrAt (W.setRow b A') b A' := by
  obtain ⟨T, h⟩ := h
  exact ⟨T, setRow_heap W b A A' T _ h⟩
theorem ArrAt.other {W : World} {b c : Nat} {A : Array Value} (h : ArrAt W b A) (A' : Array Value) (hne : b ≠ c) : ArrAt (W.setRow c A') b A := h.keep (setRow_other W c b A' hne)
theorem Below.row {B : Nat} {a w : World} (h : Below B a w) {g : Nat} (hg : B ≤ g) (A : Array Value) : Below B a (w.setRow g A) :=
  ⟨h.os, h.tape, h.output, by have := h.size; simpa [World.setRow] using this, fun k hk => (setRow_other w g k A (by omega)).trans (h.block k hk)⟩
/-- An array as the result. -/
theorem ArrAt.result {w : World} {b : Nat} {E : Nat → Int} (h : ArrAt w b (eA E)) {fn : Func} {p : Tmp} (hf : fn.results = #[.cell p 135]) {tmps : Array Value} (hp : tmps.getD p undef = .pointer (some ⟨b, 0, none⟩)) :
    (results fn tmps).run Try.prog w = .ok (.agg (eA E)) w := by
  obtain ⟨T, h⟩ := h
  exact results_cell_row hf tmps w b T _ _ _ hp h Try.underlying135 rfl (by rw [eA_size]; exact (zero_of_info ends_info).2)
attribute [local go_sem ↓] loadE_pre storeE_pre

set_option maxHeartbeats 1000000 in
theorem committed_any (w : World) (E : Nat → Int) (t : Nat) (ht : t < 12) :
    Calls Try.prog 76 #[.agg (eA E), .int .i64 (t : Int)] w fun e w' => e = .returned (.bool (decide (E t = 3))) ∧ Below w.heap.size w w' := by
  have t0 : (0 : Int) ≤ (t : Int) := by omega
  have t1 : (t : Int) < 12 := by omega
  have hc : (w.alloc (.cells (eA E) 135)).cell? ⟨w.heap.size, t, none⟩ = some (.int .i64 (E t)) := (ArrAt.new w (eA E) 135).cell (eA_at E ht)
  have hb := hid (bx w (.cells (eA E) 135))
  go_enter Try.func76, Try.ntmps76
  go_wp2_with fail
  go_ret
  exact ⟨rfl, hb.out⟩

set_option maxHeartbeats 1000000 in
theorem behind_any (w : World) (E : Nat → Int) (o : Rn.Op) (h0 : 0 ≤ o.x) (h1 : o.x < 12) :
    Calls Try.prog 80 #[.agg (eA E), .agg #[.int .i64 o.x, .int .i64 o.k, .int .i64 o.i]] w fun e w' => e = .returned (.agg (eA fun t => Rn.fin (E t) o t)) ∧ Below w.heap.size w w' := by
  obtain ⟨ox, ok, oi⟩ := o
  simp only at h0 h1
  have hz := (zero_of_info ends_info).1
  obtain ⟨z, hz'⟩ : ∃ z, z = eA fun _ => 0 := ⟨_, rfl⟩
  rw [← hz'] at hz
  obtain ⟨t, rfl⟩ : ∃ t : Nat, ox = (t : Int) := ⟨ox.toNat, by omega⟩
  obtain ⟨F, hF⟩ : ∃ F, F = fun s => Rn.fin (E s) ⟨(t : Int), ok, oi⟩ s := ⟨_, rfl⟩
  rw [← hF]
  have hat := eA_at E (t := t) (by omega)
  have hl : ∀ (G : Nat → Int) (o1 o2 : Obj), (loadE (.pointer (some ⟨w.heap.size, 0, none⟩))).run Try.prog (((w.alloc (.cells (eA G) 135)).alloc o1).alloc o2) = .ok (.agg (eA G)) (((w.alloc (.cells (eA G) 135)).alloc o1).alloc o2) := fun G o1 o2 =>
    run_loadE ((ArrAt.new w (eA G) _).below (below_tr (bx _ _) (bx _ _)))
  have hs : ∀ (G : Nat → Int) (o1 o2 : Obj), (storeE (.pointer (some ⟨w.heap.size + 1 + 1, 0, none⟩)) (.agg (eA G))).run Try.prog ((w.alloc o1).alloc o2 |>.alloc (.cells z 135)) = .ok () ((((w.alloc o1).alloc o2).alloc (.cells z 135)).setRow (w.heap.size + 1 + 1) (eA G)) := fun G o1 o2 => by
    have := ArrAt.new ((w.alloc o1).alloc o2) (eA fun _ => 0) 135
    rw [← hz'] at this
    rw [show ((w.alloc o1).alloc o2).heap.size = w.heap.size + 1 + 1 by simp] at this
    rw [hz'] at this ⊢
    exact run_storeE this
  have fin_ : ∀ (G : Nat → Int) (o1 o2 : Obj), Hid (ArrAt ((((w.alloc o1).alloc o2).alloc (.cells z 135)).setRow (w.heap.size + 1 + 1) (eA G)) (w.heap.size + 1 + 1) (eA G) ∧ Below w.heap.size w ((((w.alloc o1).alloc o2).alloc (.cells z 135)).setRow (w.heap.size + 1 + 1) (eA G))) := fun G o1 o2 => by
    have := ArrAt.new ((w.alloc o1).alloc o2) z 135
    rw [show ((w.alloc o1).alloc o2).heap.size = w.heap.size + 1 + 1 by simp] at this
    exact ⟨this.row _, Below.row (below_tr (bx _ _) (below_tr (bx _ _) (bx _ _))) (by omega) _⟩
  by_cases hk : ok = 3 ∨ ok = 4
  · have hset : (eA E).setIfInBounds t (.int .i64 ok) = eA F := by
      rw [eA_set, hF]
      congr 1
      funext s
      unfold Rn.fin
      by_cases e : s = t
      · rw [if_pos e, if_pos ⟨hk, by simp [e]⟩]
      · rw [if_neg e, if_neg (fun h => e (by have := h.2; simp at this; omega))]
    clear hF hz'
    rcases hk with rfl | rfl
    all_goals
      go_enter Try.func80, Try.ntmps80
      go_wp2_with fail
      obtain ⟨f1, f2⟩ := (fin_ F _ _).out
      exact bodyPost_ret (f1.result rfl rfl) rfl ⟨rfl, f2⟩
  · have hn : eA F = eA E := by
      rw [hF]
      congr 1
      funext s
      unfold Rn.fin
      rw [if_neg (fun h => hk h.1)]
    have k3 : (ok == 3) = false := by simp; omega
    have k4 : (ok == 4) = false := by simp; omega
    rw [hn]
    clear hn hF hz'
    go_enter Try.func80, Try.ntmps80
    go_wp2_with fail
    obtain ⟨f1, f2⟩ := (fin_ E _ _).out
    exact bodyPost_ret (f1.result rfl rfl) rfl ⟨rfl, f2⟩
end Go.Proofs.Ytlalpahfoafhoab.PRun
