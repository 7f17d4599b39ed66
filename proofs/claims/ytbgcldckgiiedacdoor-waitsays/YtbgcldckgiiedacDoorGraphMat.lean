/- A square of bools in memory: a row of rows, each in the block behind the last one; what a store leaves. -/
import Derived.Test.YtbgcldckgiiedacDoorGraphBol
namespace Go.Proofs.YtbgcldckgiiedacDoor.PGraph
open Go Go.RowKit PPool
set_option maxRecDepth 100000

theorem brow_info : (Tryd.prog.info? 35).map (fun i => (i.zero, i.size, i.bytes)) = some (some (.slice none 0 0), 1, 24) := by kernel_rfl
theorem run_make_brows (n : Nat) (hn : n ≤ 4096) (W : World) : (Instr.makeSlice 40 (.int .i64 (n : Int)) (.int .i64 (n : Int))).run Tryd.prog W = .ok (.slice (some ⟨W.heap.size, 0, none⟩) n n) (W.alloc (.cells (madeCells #[.slice none 0 0] (n * 1)) 35)) := by
  obtain ⟨i0, hi, hz0, hz1, hz2⟩ := info_parts brow_info
  have := run_make (P := Tryd.prog) W 40 35 i0 (.slice none 0 0) Tryd.underlying40 hi hz0 .i64 .i64 n n (by omega) (by omega) (by rw [hz2]; omega) (by omega)
  rw [hz1] at this
  exact this

/-- The i-th row. -/
def brow (B n i : Nat) : Value := .slice (some ⟨B + 1 + i, 0, none⟩) n n
/-- The rows: m of them are there. -/
def brows (B n m : Nat) : List Value := (List.range n).map (fun i => if i < m then brow B n i else .slice none 0 0)
theorem brows_none (B n : Nat) : brows B n 0 = List.replicate n (.slice none 0 0) := by
  unfold brows
  rw [show (fun i => if i < 0 then brow B n i else Value.slice none 0 0) = fun _ => .slice none 0 0 from by funext i; simp, List.map_const', List.length_range]
theorem brows_next {B n m : Nat} : (brows B n m).set m (brow B n m) = brows B n (m + 1) := by
  unfold brows
  apply List.ext_getElem?
  intro i
  rw [List.getElem?_set, List.length_map, List.length_range]
  by_cases hi : i < n
  · rw [List.getElem?_map, List.getElem?_map, List.getElem?_range hi]
    by_cases hj : m = i
    · subst hj; simp [hi]
    · rw [if_neg hj]
      simp only [Option.map_some]
      congr 1
      by_cases h1 : i < m
      · rw [if_pos h1, if_pos (by omega)]
      · rw [if_neg h1, if_neg (by omega)]
  · rw [List.getElem?_eq_none (by simp; omega), List.getElem?_eq_none (by simp; omega)]
    split
    · split
      · omega
      · rfl
    · rfl

/-- A square of bools, made at B. -/
structure Mat (w : World) (B n : Nat) (F : Nat → Nat → Bool) : Prop where
  top : OwnR id 35 w B (.slice (some ⟨B, 0, none⟩) n n) (brows B n n)
  row : ∀ i, i < n → OwnBools w B (brow B n i) ((List.range n).map (F i))
theorem Mat.below {w w' : World} {B n : Nat} {F : Nat → Nat → Bool} (h : Mat w B n F) (hb : Below w.heap.size w w') : Mat w' B n F := ⟨h.top.below hb, fun i hi => (h.row i hi).below hb⟩
theorem Mat.drew {w : World} {B n : Nat} {F : Nat → Nat → Bool} (h : Mat w B n F) : Mat w.drew B n F := h.below (Below.refl _ _).drew
theorem Mat.congr {w : World} {B n : Nat} {F G : Nat → Nat → Bool} (h : Mat w B n F) (e : ∀ i j, i < n → j < n → F i j = G i j) : Mat w B n G := by
  refine ⟨h.top, fun i hi => ?_⟩
  have := h.row i hi
  rwa [show (List.range n).map (F i) = (List.range n).map (G i) from List.map_congr_left fun j hj => e i j hi (List.mem_range.1 hj)] at this
theorem Mat.head {w : World} {B n : Nat} {F : Nat → Nat → Bool} (h : Mat w B n F) {i : Nat} (hi : i < n) : w.cell? ⟨B, i, none⟩ = some (.slice (some ⟨B + 1 + i, 0, none⟩) n n) := by
  have := h.top.cell (k := i) (x := brow B n i) (by simp [brows, hi])
  exact this
theorem Mat.cell {w : World} {B n : Nat} {F : Nat → Nat → Bool} (h : Mat w B n F) {i j : Nat} (hi : i < n) (hj : j < n) : w.cell? ⟨B + 1 + i, j, none⟩ = some (.bool (F i j)) :=
  OwnR.cell (h.row i hi) (k := j) (x := F i j) (by simp [hj])
theorem Mat.fz {w : World} {B n : Nat} {F : Nat → Nat → Bool} (h : Mat w B n F) {i : Nat} (hi : i < n) (j : Nat) : w.frozen? ⟨B + 1 + i, j, none⟩ = false := OwnR.fz (h.row i hi) j
theorem Mat.lt {w : World} {B n : Nat} {F : Nat → Nat → Bool} (h : Mat w B n F) {i : Nat} (hi : i < n) : B + 1 + i < w.heap.size := (OwnR.ge (h.row i hi)).2
theorem Mat.at_ {w : World} {B n : Nat} {F : Nat → Nat → Bool} (h : Mat w B n F) {i : Nat} (hi : i < n) : BoolsAt w (some ⟨B + 1 + i, 0, none⟩) ((List.range n).map (F i)) := by
  obtain ⟨a, c, e, hp, _⟩ := (h.row i hi).at_
  injection e with e1 _ _
  rw [← e1] at hp
  exact hp
theorem Mat.set {w : World} {B n : Nat} {F : Nat → Nat → Bool} (h : Mat w B n F) {i j : Nat} (hi : i < n) (v : Bool) :
    Mat (w.setCell ⟨B + 1 + i, j, none⟩ (.bool v)) B n (fun a c => if a = i ∧ c = j then v else F a c) := by
  refine ⟨h.top.keep fun g hg => ?_, fun a ha => ?_⟩
  · have : B = g := by simpa [Value.ownBlock] using hg
    exact Below.heap_setCell _ _ _ _ (fun e => by have e' : g = B + 1 + i := e; omega)
  · by_cases e : a = i
    · subst e
      have := OwnR.set (h.row a ha) j v
      rw [show (List.range n).map (fun c => if a = a ∧ c = j then v else F a c) = ((List.range n).map (F a)).set j v from ?_]
      · exact this
      · apply List.ext_getElem?
        intro c
        rw [List.getElem?_set, List.length_map, List.length_range]
        by_cases hc : c < n
        · rw [List.getElem?_map, List.getElem?_map, List.getElem?_range hc]
          by_cases hj : j = c
          · subst hj; simp [hc]
          · have : ¬ c = j := fun e => hj e.symm
            simp [hj, this]
        · rw [List.getElem?_eq_none (by simp; omega), List.getElem?_eq_none (by simp; omega)]
          split
          · split
            · omega
            · rfl
          · rfl
    · have hk := (h.row a ha).keep (w' := w.setCell ⟨B + 1 + i, j, none⟩ (.bool v)) fun g hg => Below.heap_setCell _ _ _ _ (fun e' => by
        have e1 : B + 1 + a = g := by simpa [brow, Value.ownBlock] using hg
        have e2 : g = B + 1 + i := e'
        omega)
      rw [show (List.range n).map (fun c => if a = i ∧ c = j then v else F a c) = (List.range n).map (F a) from List.map_congr_left fun c _ => by simp [e]]
      exact hk
end Go.Proofs.YtbgcldckgiiedacDoor.PGraph
