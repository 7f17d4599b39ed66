/- Rows of sets, right graphs: how they lie, how they are made. Conditions: a right graph. -/
import Derived.Test.YtbgcldckgiiedacDoorGraphNat
import Derived.Deep.RegionHeld3
namespace Go.Proofs.YtbgcldckgiiedacDoor.PGraph
open Go Go.RowKit PPool
set_option maxRecDepth 100000

abbrev uc : Nat → Value := fun s => .int .u64 (s : Int)
abbrev SetsAt := RowAt uc
abbrev OwnSets := OwnR uc 58
theorem set_info : (Tryd.prog.info? 58).map (fun i => (i.zero, i.size, i.bytes)) = some (some (.int .u64 0), 1, 8) := by kernel_rfl
theorem made_sets (n : Nat) : madeCells #[.int .u64 0] (n * 1) = ((List.replicate n 0).map uc).toArray := by
  apply Array.ext'
  unfold madeCells
  rw [Array.toList_map, Array.toList_range, List.map_replicate]
  apply List.ext_getElem?
  intro j
  rw [List.getElem?_map]
  show _ = (List.replicate n (uc 0))[j]?
  rw [List.getElem?_replicate]
  by_cases hj : j < n
  · rw [List.getElem?_range (by omega), if_pos hj]
    simp [Nat.mod_one, uc]
  · rw [List.getElem?_eq_none (by simp; omega), if_neg hj]
    rfl
theorem sets_made (w : World) (n : Nat) (hn : n ≤ maxLen) : OwnSets (w.alloc (.cells (madeCells #[.int .u64 0] (n * 1)) 58)) w.heap.size (.slice (some ⟨w.heap.size, 0, none⟩) n n) (List.replicate n 0) := by
  rw [made_sets]
  refine ⟨by simp, .inr ⟨w.heap.size, n, _, by simp, Nat.le_refl _, heap_alloc_new w _, by simp, hn, by simp, ?_⟩⟩
  simp
theorem run_make_sets (n : Nat) (hn : n ≤ 4096) (W : World) : (Instr.makeSlice 55 (.int .i64 (n : Int)) (.int .i64 (n : Int))).run Tryd.prog W = .ok (.slice (some ⟨W.heap.size, 0, none⟩) n n) (W.alloc (.cells (madeCells #[.int .u64 0] (n * 1)) 58)) := by
  obtain ⟨i0, hi, hz0, hz1, hz2⟩ := info_parts set_info
  have := run_make (P := Tryd.prog) W 55 58 i0 (.int .u64 0) Tryd.underlying55 hi hz0 .i64 .i64 n n (by omega) (by omega) (by rw [hz2]; omega) (by omega)
  rw [hz1] at this
  exact this

/-- A right graph. -/
def Right (n : Nat) (X : List Gr.Ed) : Prop := n ≤ 60 ∧ X.length ≤ 2000 ∧ ∀ e ∈ X, ∃ i j, e = Gr.ed i j ∧ i < n ∧ j < n
theorem Right.of {n : Int} {X : List Gr.Ed} (h : Gr.check n X = 0) : ∃ m : Nat, n = m ∧ Right m X := by
  obtain ⟨h1, h2, h3, h4⟩ := Gr.check_ok h
  refine ⟨n.toNat, by omega, by omega, h3, fun e he => ?_⟩
  obtain ⟨a1, a2, a3, a4⟩ := h4 e he
  exact ⟨e.f.toNat, e.t.toNat, by cases e; simp only [Gr.ed] at *; congr 1 <;> omega, by omega, by omega⟩
theorem Right.at_ {n : Nat} {X : List Gr.Ed} (h : Right n X) {k : Nat} {x : Gr.Ed} (hx : X[k]? = some x) : ∃ i j : Nat, x = ⟨(i : Int), (j : Int)⟩ ∧ i < n ∧ j < n := h.2.2 x (List.mem_of_getElem? hx)
theorem Right.E {n : Nat} {X : List Gr.Ed} (h : Right n X) (i j : Nat) (he : Gr.E X i j = true) : i < n ∧ j < n := by
  obtain ⟨a, b, e, h1, h2⟩ := h.2.2 _ (of_decide_eq_true he)
  unfold Gr.ed at e
  injection e with e1 e2
  omega

theorem or_lt60 {v i n : Nat} (hv : v < 2 ^ n) (hi : i < n) (hn : n ≤ 60) : v < 18446744073709551616 ∧ 2 ^ i < 18446744073709551616 ∧ v ||| 2 ^ i < 2 ^ n := by
  have h1 : 2 ^ n ≤ 2 ^ 60 := Nat.pow_le_pow_right (by omega) hn
  have h2 : (2 : Nat) ^ 60 < 18446744073709551616 := by decide
  have h3 : 2 ^ i < 2 ^ n := Nat.pow_lt_pow_right (by omega) hi
  exact ⟨by omega, by omega, Nat.or_lt_two_pow hv h3⟩
end Go.Proofs.YtbgcldckgiiedacDoor.PGraph
