/-
  fold.Get, walked: it returns what 'getF' says, and nothing that was there has turned. Condition: the text's length is at most 2^47.
-/
import Derived.Test.YthfpinjegfgeiaaFoldClone
import Derived.Deep.RegionHeld3
import Derived.Deep.RegionWith
import Derived.WalkLawsBesides
namespace Go.Proofs.Ythfpinjegfgeiaa.PFold
open Go.RowKit

theorem drawn1 {a c : World} (h : Below a.drew.heap.size a.drew c) : Below a.heap.size a c := ⟨h.os, h.tape, h.output, h.size, h.block⟩
theorem chain {a b c : World} (h : Below a.heap.size a b) (k : Below b.heap.size b c) : Below a.heap.size a c := h.trans (k.mono h.size)

set_option maxRecDepth 100000 in
theorem get_short (s : ByteArray) (w : World) (h : s.size < 4) :
    Calls Try.prog 21 #[.string s] w fun e w' => e = .returned (.tuple #[.string ⟨#[]⟩, .int .i64 3]) ∧ w' = w := by
  have h' : (s.size : Int) < 4 := by omega
  go_enter Try.func21, Try.ntmps21
  go_wp2_with fail
  go_ret2
  exact ⟨rfl, rfl⟩

set_option maxRecDepth 100000 in
theorem get_large (s : ByteArray) (w : World) (h : 4100 < s.size) (hs : s.size ≤ 140737488355328) :
    Calls Try.prog 21 #[.string s] w fun e w' => e = .returned (.tuple #[.string ⟨#[]⟩, .int .i64 2]) ∧ w' = w := by
  have h' : (4100 : Int) < (s.size : Int) := by omega
  have hs' : (s.size : Int) ≤ 140737488355328 := by omega
  go_enter Try.func21, Try.ntmps21
  go_wp2_with fail
  go_ret2
  exact ⟨rfl, rfl⟩

theorem cut_to (s : ByteArray) (n : Int) (h0 : 0 ≤ n) (h1 : n ≤ (s.size : Int)) (W : World) :
    (Instr.slice 9 (.string s) none (some (.int .i64 n)) none).run Try.prog W = .ok (.string (s.extract 0 n.toNat)) W := run_slice_string_h W 9 s Try.underlying9 .i64 n h0 h1
theorem cut_from (s : ByteArray) (n : Int) (h0 : 0 ≤ n) (h1 : n ≤ (s.size : Int)) (W : World) :
    (Instr.slice 9 (.string s) (some (.int .i64 n)) none none).run Try.prog W = .ok (.string (s.extract n.toNat s.size)) W := run_slice_string_l W 9 s Try.underlying9 .i64 n h0 h1

set_option maxRecDepth 100000 in
set_option maxHeartbeats 1000000 in
theorem get_sum (s : ByteArray) (w : World) (h : 4 ≤ s.size) (h1 : s.size ≤ 4100) (hne : sumB (s.extract 0 (s.size - 4)) ≠ s.extract (s.size - 4) s.size) :
    Calls Try.prog 21 #[.string s] w fun e w' => e = .returned (.tuple #[.string ⟨#[]⟩, .int .i64 5]) ∧ Below w.heap.size w w' := by
  have h' : (4 : Int) ≤ (s.size : Int) := by omega
  have h1' : (s.size : Int) ≤ 4100 := by omega
  have hw : IntKind.i64.wrap ((s.size : Int) - 4) = (s.size : Int) - 4 := IntWalk.i64_in _ ⟨by omega, by omega⟩
  have e1 := fun W => cut_to s ((s.size : Int) - 4) (by omega) (by omega) W
  have e2 := fun W => cut_from s ((s.size : Int) - 4) (by omega) (by omega) W
  have H := hide fun W => sumText_any (s.extract 0 (s.size - 4)) W (by rw [ByteArray.size_extract]; unfold maxLen; omega)
  rw [show ((s.size : Int) - 4).toNat = s.size - 4 from by omega] at e1 e2
  generalize s.extract 0 (s.size - 4) = P at *
  generalize s.extract (s.size - 4) s.size = R at *
  generalize sumB P = q at *
  have hq : (q.toList == R.toList) = false := by
    rw [beq_eq_false_iff_ne]; intro hx; exact hne (Go.WideShapes.bytes_inj (by rw [← Lib.toList_data, ← Lib.toList_data]; exact hx))
  clear hne
  go_enter Try.func21, Try.ntmps21
  go_wp2_with fail
  go_region_held3 (fun _ => True) (trivial) ((go_at_call 47; refine (H.out _).mono ?_; rintro r w1 ⟨rfl, hb1⟩))
  go_wp2_with fail
  go_ret2
  exact ⟨rfl, by first | exact hb1 | exact drawn1 hb1⟩

set_option maxRecDepth 100000 in
set_option maxHeartbeats 1000000 in
theorem get_ok (s : ByteArray) (w : World) (h : 4 ≤ s.size) (h1 : s.size ≤ 4100) (hne : sumB (s.extract 0 (s.size - 4)) = s.extract (s.size - 4) s.size) :
    Calls Try.prog 21 #[.string s] w fun e w' => e = .returned (.tuple #[.string (s.extract 0 (s.size - 4)), .int .i64 0]) ∧ Below w.heap.size w w' := by
  have h' : (4 : Int) ≤ (s.size : Int) := by omega
  have h1' : (s.size : Int) ≤ 4100 := by omega
  have hw : IntKind.i64.wrap ((s.size : Int) - 4) = (s.size : Int) - 4 := IntWalk.i64_in _ ⟨by omega, by omega⟩
  have e1 := fun W => cut_to s ((s.size : Int) - 4) (by omega) (by omega) W
  have e2 := fun W => cut_from s ((s.size : Int) - 4) (by omega) (by omega) W
  have H := hide fun W => sumText_any (s.extract 0 (s.size - 4)) W (by rw [ByteArray.size_extract]; unfold maxLen; omega)
  have HC := hide fun W => clone_any (s.extract 0 (s.size - 4)) W (by rw [ByteArray.size_extract]; omega)
  rw [show ((s.size : Int) - 4).toNat = s.size - 4 from by omega] at e1 e2
  generalize s.extract 0 (s.size - 4) = P at *
  generalize s.extract (s.size - 4) s.size = R at *
  generalize sumB P = q at *
  subst hne
  go_enter Try.func21, Try.ntmps21
  go_wp2_with fail
  go_region_held3 (fun _ => True) (trivial) ((go_at_call 47; refine (H.out _).mono ?_; rintro r w1 ⟨rfl, hb1⟩))
  go_wp2_with fail
  refine (HC.out _).mono ?_
  rintro r w2 ⟨rfl, hb2⟩
  go_wp2_with fail
  go_ret2
  exact ⟨rfl, chain (by first | exact hb1 | exact drawn1 hb1) hb2⟩

/- all ways in one -/
def getF (s : ByteArray) : ByteArray × Nat :=
  if s.size < 4 then (⟨#[]⟩, 3) else if 4100 < s.size then (⟨#[]⟩, 2)
  else if (sumB (s.extract 0 (s.size - 4))).data.toList = (s.extract (s.size - 4) s.size).data.toList then (s.extract 0 (s.size - 4), 0) else (⟨#[]⟩, 5)

theorem get_any (s : ByteArray) (w : World) (hs : s.size ≤ 140737488355328) :
    Calls Try.prog 21 #[.string s] w fun e w' => e = .returned (.tuple #[.string (getF s).1, .int .i64 (getF s).2]) ∧ Below w.heap.size w w' := by
  by_cases h0 : s.size < 4
  · rw [getF, if_pos h0]
    exact (get_short s w h0).mono fun e w' h => ⟨h.1, h.2 ▸ Below.refl _ _⟩
  · by_cases h1 : 4100 < s.size
    · rw [getF, if_neg h0, if_pos h1]
      exact (get_large s w h1 hs).mono fun e w' h => ⟨h.1, h.2 ▸ Below.refl _ _⟩
    · by_cases h2 : (sumB (s.extract 0 (s.size - 4))).data.toList = (s.extract (s.size - 4) s.size).data.toList
      · rw [getF, if_neg h0, if_neg h1, if_pos h2]
        exact get_ok s w (by omega) (by omega) (Go.WideShapes.bytes_inj h2)
      · rw [getF, if_neg h0, if_neg h1, if_neg h2]
        exact get_sum s w (by omega) (by omega) (fun h => h2 (by rw [h]))
end Go.Proofs.Ythfpinjegfgeiaa.PFold
