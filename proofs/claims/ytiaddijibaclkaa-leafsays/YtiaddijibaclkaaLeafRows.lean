/- Rows of slots of one's own, second part: how they are made, what stores leave; the boxes of a call. -/
import Derived.Test.YtiaddijibaclkaaLeafSize
namespace Go.Proofs.Ytiaddijibaclkaa.PLeaf
open Go Go.RowKit
set_option maxRecDepth 100000

/-- A row in the making: the first k slots lie there, the rest are empty. -/
def half (X : List Lf.Sl) (k : Nat) : List Lf.Sl := X.take k ++ List.replicate (X.length - k) Lf.none'
theorem half_len {X : List Lf.Sl} {k : Nat} (hk : k ≤ X.length) : (half X k).length = X.length := by
  unfold half; rw [List.length_append, List.length_take, List.length_replicate]; omega
theorem half_all (X : List Lf.Sl) : half X X.length = X := by unfold half; simp
theorem half_set {X : List Lf.Sl} {k : Nat} {x : Lf.Sl} (hx : X[k]? = some x) : (half X k).set k x = half X (k + 1) := by
  obtain ⟨g1, g2⟩ := List.getElem?_eq_some_iff.1 hx
  unfold half
  have l1 : (X.take k).length = k := by rw [List.length_take]; omega
  rw [List.set_append_right _ _ (by omega), l1, Nat.sub_self, show X.length - k = (X.length - (k + 1)) + 1 by omega, List.replicate_succ, List.set_cons_zero, List.take_succ_eq_append_getElem g1, g2]
  simp
theorem half_at {X : List Lf.Sl} {k : Nat} (hk : k < X.length) : (half X k)[k]? = some Lf.none' := by
  unfold half
  have l1 : (X.take k).length = k := by rw [List.length_take]; omega
  rw [List.getElem?_append_right (by omega), l1, Nat.sub_self, List.getElem?_replicate, if_pos (by omega)]
def z2 : Array Value := #[.bool false, .string ⟨#[]⟩]
theorem made_half (n : Nat) : madeCells z2 (n * 2) = ((List.replicate n Lf.none').flatMap sc).toArray := by
  apply Array.ext'
  apply List.ext_getElem?
  intro j
  unfold madeCells
  show _ = ((List.replicate n Lf.none').flatMap sc)[j]?
  rw [Array.toList_map, Array.toList_range, List.getElem?_map]
  by_cases hj : j < n * 2
  · have hx : (List.replicate n Lf.none')[j / 2]? = some Lf.none' := by rw [List.getElem?_replicate, if_pos (by omega)]
    rw [List.getElem?_range hj]
    rcases Nat.mod_two_eq_zero_or_one j with hm | hm
    · have e1 : j = j / 2 * 2 + 0 := by omega
      have e2 := flat_at (enc := sc) (c := 2) _ (fun x _ => sc_len x) (j / 2) _ hx 0 (.bool false) rfl
      rw [← e1] at e2
      rw [e2]
      simp [z2, hm]
    · have e1 : j = j / 2 * 2 + 1 := by omega
      have e2 := flat_at (enc := sc) (c := 2) _ (fun x _ => sc_len x) (j / 2) _ hx 1 (.string Lf.nob) rfl
      rw [← e1] at e2
      rw [e2]
      simp [z2, hm, Lf.nob]
  · rw [List.getElem?_eq_none (by simp; omega), List.getElem?_eq_none (by rw [pg_len, List.length_replicate]; omega)]
    rfl

theorem OwnPg.made (w : World) (X : List Lf.Sl) (hn : X.length ≤ maxLen) :
    OwnPg (w.alloc (.cells (madeCells z2 (X.length * 2)) 90)) w.heap.size (.slice (some ⟨w.heap.size, 0, none⟩) X.length X.length) (half X 0) := by
  have e : half X 0 = List.replicate X.length Lf.none' := by unfold half; simp
  rw [e, made_half]
  refine ⟨by rw [pg_len], .inr ⟨w.heap.size, X.length, _, by rw [List.length_replicate], Nat.le_refl _, heap_alloc_new w _, by rw [List.length_replicate]; exact Nat.le_refl _, hn, ?_, ?_⟩⟩
  · rw [List.size_toArray, pg_len, List.length_replicate]
  · rw [List.take_of_length_le (by rw [pg_len]; exact Nat.le_refl _)]
theorem OwnPg.fz {w : World} {base g n c : Nat} {X : List Lf.Sl} (h : OwnPg w base (.slice (some ⟨g, 0, none⟩) n c) X) (i : Nat) : w.frozen? ⟨g, i, none⟩ = false := by
  rcases h.2 with ⟨e, _⟩ | ⟨g', cap, cur, hv, hg, hh, r⟩
  · cases e
  · injection hv with e1 e2 e3
    have eg : g = g' := by injection e1 with e1; injection e1
    subst eg
    simp [World.frozen?, hh]
theorem OwnPg.cells {w : World} {base g n c : Nat} {X : List Lf.Sl} (h : OwnPg w base (.slice (some ⟨g, 0, none⟩) n c) X) {k : Nat} {x : Lf.Sl} (hx : X[k]? = some x) :
    w.cell? ⟨g, k * 2, none⟩ = some (.bool x.used) ∧ w.cell? ⟨g, k * 2 + 1, none⟩ = some (.string x.text) := by
  obtain ⟨a, c', e, hp, _⟩ := h.at_
  obtain ⟨b, o, ea, d1, d2⟩ := hp k x hx
  rcases h.2 with ⟨e', _⟩ | ⟨g', cap, cur, hv, hg, hh, r⟩
  · cases e'
  · injection e with e1 _ _
    injection hv with e2 _ _
    rw [ea] at e1
    rw [e2] at e1
    injection e2 with e2
    injection e1 with e1
    injection e2 with e2 _ _
    injection e1 with e1 eo _
    subst e1; subst e2; subst eo
    rw [Nat.zero_add] at d1 d2
    exact ⟨d1, d2⟩
theorem OwnPg.ge {w : World} {base g n c : Nat} {X : List Lf.Sl} (h : OwnPg w base (.slice (some ⟨g, 0, none⟩) n c) X) : base ≤ g ∧ g < w.heap.size := h.lt g rfl
theorem OwnPg.keepAlloc {w : World} {base : Nat} {v : Value} {X : List Lf.Sl} (h : OwnPg w base v X) (o : Obj) : OwnPg (w.alloc o) base v X := h.below (bx _ _)
/-- The store of a slot. -/
theorem OwnPg.put {w : World} {base g n c : Nat} {X : List Lf.Sl} (h : OwnPg w base (.slice (some ⟨g, 0, none⟩) n c) X) (k : Nat) (hk : k < X.length) (u : Bool) (t : ByteArray) :
    OwnPg ((w.setCell ⟨g, k * 2, none⟩ (.bool u)).setCell ⟨g, k * 2 + 1, none⟩ (.string t)) base (.slice (some ⟨g, 0, none⟩) n c) (X.set k ⟨u, t⟩) := h.set k hk ⟨u, t⟩
theorem Below.two {w w' : World} {B g : Nat} (h : Below B w w') (hg : B ≤ g) (i j : Nat) (u v : Value) : Below B w ((w'.setCell ⟨g, i, none⟩ u).setCell ⟨g, j, none⟩ v) :=
  (h.setCell (p := ⟨g, i, none⟩) hg _).setCell (p := ⟨g, j, none⟩) hg _

theorem OwnPg.spot {w : World} {base g n c : Nat} {X : List Lf.Sl} (h : OwnPg w base (.slice (some ⟨g, 0, none⟩) n c) X) {k : Nat} {x : Lf.Sl} (hx : X[k]? = some x) :
    w.cell? ⟨g, k * 2, none⟩ = some (.bool x.used) ∧ w.cell? ⟨g, k * 2 + 1, none⟩ = some (.string x.text) ∧ w.frozen? ⟨g, k * 2, none⟩ = false ∧ w.frozen? ⟨g, k * 2 + 1, none⟩ = false :=
  ⟨(h.cells hx).1, (h.cells hx).2, h.fz _, h.fz _⟩
theorem spot_set {W : World} {g b i j : Nat} {x y u v : Value} (hne : g ≠ b) (h1 : W.cell? ⟨b, 0, none⟩ = some x) (h2 : W.cell? ⟨b, 1, none⟩ = some y) :
    ((W.setCell ⟨g, i, none⟩ u).setCell ⟨g, j, none⟩ v).cell? ⟨b, 0, none⟩ = some x ∧ ((W.setCell ⟨g, i, none⟩ u).setCell ⟨g, j, none⟩ v).cell? ⟨b, 1, none⟩ = some y := by
  have hb : ((W.setCell ⟨g, i, none⟩ u).setCell ⟨g, j, none⟩ v).heap[b]? = W.heap[b]? := by
    rw [Below.heap_setCell _ _ _ _ (fun e => hne e.symm), Below.heap_setCell _ _ _ _ (fun e => hne e.symm)]
  exact ⟨(World.cell?_of_block (a := ⟨b, 0, none⟩) hb).trans h1, (World.cell?_of_block (a := ⟨b, 1, none⟩) hb).trans h2⟩

/-- Two boxes ahead of all that a call does. -/
structure Bxs (w w0 : World) (x y : Value) : Prop where
  size : w0.heap.size = w.heap.size + 2
  below : Below w.heap.size w w0
  b0 : ∃ T, w0.heap[w.heap.size]? = some (.cells #[x] T (0, 0))
  b1 : ∃ T, w0.heap[w.heap.size + 1]? = some (.cells #[y] T (0, 0))
theorem Bxs.mk' (w : World) (x y : Value) (T T' : TypeId) : Bxs w ((w.alloc (.cells #[x] T)).alloc (.cells #[y] T')) x y := by
  refine ⟨by simp, below_tr (bx _ _) (bx _ _), ⟨T, ?_⟩, ⟨T', ?_⟩⟩
  · exact (Below.heap_alloc (w.alloc (.cells #[x] T)) _ _ (by simp)).trans (heap_alloc_new w _)
  · have := heap_alloc_new (w.alloc (.cells #[x] T)) (.cells #[y] T')
    simpa using this
theorem Bxs.c0 {w w0 w1 : World} {x y : Value} (h : Bxs w w0 x y) (hb : Below w0.heap.size w0 w1) : w1.cell? ⟨w.heap.size, 0, none⟩ = some x := by
  obtain ⟨T, h0⟩ := h.b0
  have hg := (hb.block _ (by have := h.size; omega)).trans h0
  rw [cell_of_row w1 _ _ _ _ _ hg]; rfl
theorem Bxs.c1 {w w0 w1 : World} {x y : Value} (h : Bxs w w0 x y) (hb : Below w0.heap.size w0 w1) : w1.cell? ⟨w.heap.size + 1, 0, none⟩ = some y := by
  obtain ⟨T, h0⟩ := h.b1
  have hg := (hb.block _ (by have := h.size; omega)).trans h0
  rw [cell_of_row w1 _ _ _ _ _ hg]; rfl
theorem Bxs.fz {w w0 w1 : World} {x y : Value} (h : Bxs w w0 x y) (hb : Below w0.heap.size w0 w1) : w1.frozen? ⟨w.heap.size + 1, 0, none⟩ = false := by
  obtain ⟨T, h0⟩ := h.b1
  have hg := (hb.block _ (by have := h.size; omega)).trans h0
  simp [World.frozen?, hg]
theorem Bxs.out {w w0 w1 : World} {x y : Value} (h : Bxs w w0 x y) (hb : Below w0.heap.size w0 w1) (v : Value) : (w1.setCell ⟨w.heap.size + 1, 0, none⟩ v).cell? ⟨w.heap.size + 1, 0, none⟩ = some v := by
  obtain ⟨T, h0⟩ := h.b1
  have hg := (hb.block _ (by have := h.size; omega)).trans h0
  rw [setCell_eq_setRow w1 _ 0 _ T _ v hg]
  have := setRow_heap w1 _ #[y] (#[y].setIfInBounds 0 v) T _ hg
  rw [cell_of_row _ _ _ _ _ _ this]; rfl
theorem Bxs.end_ {w w0 w1 : World} {x y : Value} (h : Bxs w w0 x y) (hb : Below w0.heap.size w0 w1) (v : Value) : Below w.heap.size w (w1.setCell ⟨w.heap.size + 1, 0, none⟩ v) :=
  (h.below.trans (hb.mono (by have := h.size; omega))).setCell (p := ⟨w.heap.size + 1, 0, none⟩) (by show _ ≤ w.heap.size + 1; omega) _
/-- A row of one's own behind the boxes, when the answer is laid into its box. -/
theorem Bxs.own {w w0 w1 : World} {x y v u : Value} {X : List Lf.Sl} (h : Bxs w w0 x y) (ho : OwnPg w1 w0.heap.size v X) : OwnPg (w1.setCell ⟨w.heap.size + 1, 0, none⟩ u) w.heap.size v X := by
  have h1 := ho.lower (base' := w.heap.size) (by have := h.size; omega)
  refine h1.keep fun g hg => Below.heap_setCell _ _ _ _ (fun e => ?_)
  have := (ho.lt g hg).1
  have := h.size
  have e' : g = w.heap.size + 1 := e
  omega
theorem OwnPg.some {w : World} {base : Nat} {v : Value} {X : List Lf.Sl} (h : OwnPg w base v X) (hp : 0 < X.length) : ∃ g c, v = .slice (some ⟨g, 0, none⟩) X.length c ∧ X.length ≤ c := by
  rcases h.2 with ⟨_, h0⟩ | ⟨g, cap, cur, hv, _, _, h1, _⟩
  · omega
  · exact ⟨g, cap, hv, h1⟩
theorem OwnPg.inp {w : World} {base : Nat} {a : Option Addr} {n c : Nat} {X : List Lf.Sl} (h : OwnPg w base (.slice a n c) X) (hl : X.length * 24 ≤ 140737488355328) (ht : Txs X) : PgIn w a X := by
  obtain ⟨a', c', e, hp, _⟩ := h.at_
  injection e with e _ _
  subst e
  exact ⟨hp, hl, ht⟩

theorem Txs.set {X : List Lf.Sl} (h : Txs X) (k : Nat) (x : Lf.Sl) (hx : x.text.size ≤ 140737488355328) : Txs (X.set k x) := fun y hy => by
  rcases Lf.mem_set hy with e | e
  · exact h y e
  · rw [e]; exact hx
theorem Txs.snoc {X : List Lf.Sl} (h : Txs X) (x : Lf.Sl) (hx : x.text.size ≤ 140737488355328) : Txs (X ++ [x]) := fun y hy => by
  rcases List.mem_append.1 hy with e | e
  · exact h y e
  · rw [List.mem_singleton.1 e]; exact hx
theorem none_cells (W : World) : ∀ j u, (sc Lf.none')[j]? = .some u → (W.alloc (.cells #[.bool false, .string ⟨#[]⟩] 90)).cell? ((⟨W.heap.size, 0, none⟩ : Addr).add j) = .some u := by
  intro j u hj
  rw [Addr.add_mid, Nat.zero_add, cell_of_row _ _ _ _ _ _ (heap_alloc_new W _)]
  match j, hj with
  | 0, hj => exact hj
  | 1, hj => exact hj

end Go.Proofs.Ytiaddijibaclkaa.PLeaf
