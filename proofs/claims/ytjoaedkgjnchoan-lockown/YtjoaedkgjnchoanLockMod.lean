/- Package lock's modes, walked: isMode, isTx, isItem, fit, join, Fits, Join: each answers what the plain words say; the world stays as it is. No conditions. -/
import Derived.Test.YtjoaedkgjnchoanLockMem
import Derived.Test.YtjoaedkgjnchoanChecked
import Derived.Deep.QuietTactic
import Derived.BigQuiet
import Derived.WalkLawsBesides
import Derived.Deep.RegionHeld3
namespace Go.Proofs.Ytjoaedkgjnchoan.PLock
open Go Go.RowKit
set_option maxRecDepth 100000

theorem mm (a b : Int) : ∃ A B : Int, A = min a b ∧ B = max a b ∧ (∀ W, (Builtin.min_ #[3, 3] 3 #[.int .i64 a, .int .i64 b]).run Try.prog W = .ok (.int .i64 A) W) ∧ (∀ W, (Builtin.max_ #[3, 3] 3 #[.int .i64 a, .int .i64 b]).run Try.prog W = .ok (.int .i64 B) W) :=
  ⟨_, _, by rw [Int.min_def]; split <;> split <;> omega, by rw [Int.max_def]; split <;> split <;> omega, fun W => run_min_int2 W _ _ _ _ _ _, fun W => run_max_int2 W _ _ _ _ _ _⟩

theorem isMode_any (w : World) (m : Int) : Calls Try.prog 48 #[.int .i64 m] w fun e w' => e = .returned (.bool (Lk.mode m)) ∧ w' = w := by
  obtain ⟨Y, hY⟩ : ∃ Y, Y = Lk.mode m := ⟨_, rfl⟩
  rw [← hY]
  have HY := hid hY
  unfold Lk.mode at HY
  clear hY
  by_cases h : 1 ≤ m
  · have j : decide (1 ≤ m) = true := by simpa using h
    rw [j, Bool.true_and] at HY
    go_enter Try.func48, Try.ntmps48
    go_wp2_with fail
    go_ret
    exact ⟨by rw [HY.out]; rfl, rfl⟩
  · have j : decide (1 ≤ m) = false := by simpa using h
    rw [j, Bool.false_and] at HY
    go_enter Try.func48, Try.ntmps48
    go_wp2_with fail
    go_ret
    exact ⟨by rw [HY.out]; rfl, rfl⟩

theorem isTx_any (w : World) (m : Int) : Calls Try.prog 46 #[.int .i64 m] w fun e w' => e = .returned (.bool (Lk.tx m)) ∧ w' = w := by
  obtain ⟨Y, hY⟩ : ∃ Y, Y = Lk.tx m := ⟨_, rfl⟩
  rw [← hY]
  have HY := hid hY
  unfold Lk.tx at HY
  clear hY
  by_cases h : 0 ≤ m
  · have j : decide (0 ≤ m) = true := by simpa using h
    rw [j, Bool.true_and] at HY
    go_enter Try.func46, Try.ntmps46
    go_wp2_with fail
    go_ret
    exact ⟨by rw [HY.out]; rfl, rfl⟩
  · have j : decide (0 ≤ m) = false := by simpa using h
    rw [j, Bool.false_and] at HY
    go_enter Try.func46, Try.ntmps46
    go_wp2_with fail
    go_ret
    exact ⟨by rw [HY.out]; rfl, rfl⟩

theorem fit_any (w : World) (a b : Int) : Calls Try.prog 87 #[.int .i64 a, .int .i64 b] w fun e w' => e = .returned (.bool (Lk.fit a b)) ∧ w' = w := by
  obtain ⟨Y, hY⟩ : ∃ Y, Y = Lk.fit a b := ⟨_, rfl⟩
  rw [← hY]
  unfold Lk.fit at hY
  obtain ⟨A, B, hA, hB, hmin, hmax⟩ := mm a b
  rw [← hA, ← hB] at hY
  have HY := hid hY
  clear hY hA hB
  by_cases h1 : A = 1
  · have e1 : Hid (Y = (B != 5)) := by have := HY.out; rw [if_pos h1] at this; rw [this]; show decide _ = _; by_cases h : B = 5 <;> simp [h]
    subst h1
    clear HY
    go_enter Try.func87, Try.ntmps87
    go_wp2_with fail
    go_ret
    exact ⟨by rw [e1.out]; rfl, rfl⟩
  · by_cases h2 : A = 2 ∨ A = 3
    · have e1 : Hid (Y = (B == A)) := by have := HY.out; rw [if_neg h1, if_pos h2] at this; rw [this]; rfl
      clear HY h1
      rcases h2 with rfl | rfl
      · go_enter Try.func87, Try.ntmps87
        go_wp2_with fail
        go_ret
        exact ⟨by rw [e1.out]; rfl, rfl⟩
      · go_enter Try.func87, Try.ntmps87
        go_wp2_with fail
        go_ret
        exact ⟨by rw [e1.out]; rfl, rfl⟩
    · have e1 : Hid (Y = false) := by have := HY.out; rw [if_neg h1, if_neg h2] at this; exact this
      have j1 : (A == 1) = false := by simpa using h1
      have j2 : (A == 2) = false := by simp; omega
      have j3 : (A == 3) = false := by simp; omega
      clear HY h1 h2
      go_enter Try.func87, Try.ntmps87
      go_wp2_with fail
      go_ret
      exact ⟨by rw [e1.out]; rfl, rfl⟩

theorem join_any (w : World) (a b : Int) : Calls Try.prog 90 #[.int .i64 a, .int .i64 b] w fun e w' => e = .returned (.int .i64 (Lk.join a b)) ∧ w' = w := by
  obtain ⟨Y, hY⟩ : ∃ Y, Y = Lk.join a b := ⟨_, rfl⟩
  rw [← hY]
  unfold Lk.join at hY
  obtain ⟨A, B, hA, hB, hmin, hmax⟩ := mm a b
  rw [← hA, ← hB] at hY
  have HY := hid hY
  clear hY hA hB
  by_cases h1 : A = 2
  · by_cases h2 : B = 3
    · have e1 : Hid (Y = 4) := by have := HY.out; rw [if_pos ⟨h1, h2⟩] at this; exact this
      subst h1; subst h2
      clear HY
      go_enter Try.func90, Try.ntmps90
      go_wp2_with fail
      go_ret
      exact ⟨by rw [e1.out]; rfl, rfl⟩
    · have e1 : Hid (Y = B) := by have := HY.out; rw [if_neg (fun h => h2 h.2)] at this; exact this
      have j2 : (B == 3) = false := by simpa using h2
      subst h1
      clear HY h2
      go_enter Try.func90, Try.ntmps90
      go_wp2_with fail
      go_ret
      exact ⟨by rw [e1.out]; rfl, rfl⟩
  · have e1 : Hid (Y = B) := by have := HY.out; rw [if_neg (fun h => h1 h.1)] at this; exact this
    have j1 : (A == 2) = false := by simpa using h1
    clear HY h1
    go_enter Try.func90, Try.ntmps90
    go_wp2_with fail
    go_ret
    exact ⟨by rw [e1.out]; rfl, rfl⟩
end Go.Proofs.Ytjoaedkgjnchoan.PLock
