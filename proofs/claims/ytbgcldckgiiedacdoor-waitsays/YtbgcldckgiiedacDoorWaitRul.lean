/- wait.Rule, walked: who waits, dies or wounds by a rule, and the codes. No conditions. -/
import Derived.Test.YtbgcldckgiiedacDoorWaitNum
import Derived.Test.YtbgcldckgiiedacDoorPoolMem
import Derived.Test.YtbgcldckgiiedacDoorChecked
namespace Go.Proofs.YtbgcldckgiiedacDoor.PWait
open Go Go.RowKit PPool PGraph
set_option maxRecDepth 100000

/-- All ways by the rules. -/
theorem rule_cases (r x y : Int) :
    ((r != 1) = true ∧ (r != 2) = true ∧ True ∧ True ∧ True ∧ True ∧ True ∧ Wa.ruleDo r x y = 0 ∧ Wa.ruleCode r x y = 1) ∨
    ((r != 1) = false ∧ (r != 2) = true ∧ (r == 1) = true ∧ (r == 2) = false ∧ (x == y) = true ∧ True ∧ True ∧ Wa.ruleDo r x y = 0 ∧ Wa.ruleCode r x y = 4) ∨
    ((r != 1) = true ∧ (r != 2) = false ∧ (r == 1) = false ∧ (r == 2) = true ∧ (x == y) = true ∧ True ∧ True ∧ Wa.ruleDo r x y = 0 ∧ Wa.ruleCode r x y = 4) ∨
    ((r != 1) = false ∧ (r != 2) = true ∧ (r == 1) = true ∧ (r == 2) = false ∧ (x == y) = false ∧ decide (y < x) = true ∧ decide (x < y) = false ∧ Wa.ruleDo r x y = 2 ∧ Wa.ruleCode r x y = 0) ∨
    ((r != 1) = false ∧ (r != 2) = true ∧ (r == 1) = true ∧ (r == 2) = false ∧ (x == y) = false ∧ decide (y < x) = false ∧ decide (x < y) = true ∧ Wa.ruleDo r x y = 1 ∧ Wa.ruleCode r x y = 0) ∨
    ((r != 1) = true ∧ (r != 2) = false ∧ (r == 1) = false ∧ (r == 2) = true ∧ (x == y) = false ∧ decide (y < x) = true ∧ decide (x < y) = false ∧ Wa.ruleDo r x y = 1 ∧ Wa.ruleCode r x y = 0) ∨
    ((r != 1) = true ∧ (r != 2) = false ∧ (r == 1) = false ∧ (r == 2) = true ∧ (x == y) = false ∧ decide (y < x) = false ∧ decide (x < y) = true ∧ Wa.ruleDo r x y = 3 ∧ Wa.ruleCode r x y = 0) := by
  by_cases h1 : r = 1
  · subst h1
    rcases Int.lt_trichotomy x y with h | h | h
    · have h2 : ¬ y < x := by omega
      have h3 : ¬ x = y := by omega
      simp [Wa.ruleDo, Wa.ruleCode, h, h2, h3]
    · subst h
      simp [Wa.ruleDo, Wa.ruleCode]
    · have h2 : ¬ x < y := by omega
      have h3 : ¬ x = y := by omega
      simp [Wa.ruleDo, Wa.ruleCode, h, h2, h3]
  · by_cases h2 : r = 2
    · subst h2
      rcases Int.lt_trichotomy x y with h | h | h
      · have h2 : ¬ y < x := by omega
        have h3 : ¬ x = y := by omega
        simp [Wa.ruleDo, Wa.ruleCode, h, h2, h3]
      · subst h
        simp [Wa.ruleDo, Wa.ruleCode]
      · have h2 : ¬ x < y := by omega
        have h3 : ¬ x = y := by omega
        simp [Wa.ruleDo, Wa.ruleCode, h, h2, h3]
    · simp [Wa.ruleDo, Wa.ruleCode, h1, h2]

set_option maxHeartbeats 4000000 in
theorem rule_any (w : World) (r a b : Int) :
    Calls Tryd.prog 7 #[.int .i64 r, .int .i64 a, .int .i64 b] w fun e w' => e = .returned (.tuple #[.int .i64 (Wa.ruleDo r a b), .int .i64 (Wa.ruleCode r a b)]) ∧ Below w.heap.size w w' := by
  obtain ⟨D, hD⟩ : ∃ D, D = Wa.ruleDo r a b := ⟨_, rfl⟩
  obtain ⟨C, hC⟩ : ∃ C, C = Wa.ruleCode r a b := ⟨_, rfl⟩
  rw [← hD, ← hC]
  have HD := hid hD
  have HC := hid hC
  clear hD hC
  by_cases h1 : r = 1
  · subst h1
    have j1 : ((1 : Int) != 1) = false := rfl
    have j2 : ((1 : Int) == 1) = true := rfl
    have j3 : ((1 : Int) == 2) = false := rfl
    by_cases h2 : a = b
    · have e1 : Hid (D = 0 ∧ C = 4) := by rw [HD.out, HC.out]; show _ ∧ _; simp [Wa.ruleDo, Wa.ruleCode, h2]
      have j4 : (a == b) = true := by simp [h2]
      clear h2 HD HC
      go_enter Tryd.func7, Tryd.ntmps7
      go_wp2_with fail
      go_ret2
      exact ⟨by rw [e1.out.1, e1.out.2]; rfl, Below.refl _ _⟩
    · have j4 : (a == b) = false := by simpa using h2
      by_cases h3 : a < b
      · have e1 : Hid (D = 1 ∧ C = 0) := by rw [HD.out, HC.out]; show _ ∧ _; simp [Wa.ruleDo, Wa.ruleCode, h2, h3]
        have j5 : decide (a < b) = true := by simp [h3]
        clear h2 h3 HD HC
        go_enter Tryd.func7, Tryd.ntmps7
        go_wp2_with fail
        go_ret2
        exact ⟨by rw [e1.out.1, e1.out.2]; rfl, Below.refl _ _⟩
      · have e1 : Hid (D = 2 ∧ C = 0) := by rw [HD.out, HC.out]; show _ ∧ _; simp [Wa.ruleDo, Wa.ruleCode, h2, h3]
        have j5 : decide (a < b) = false := by simp [h3]
        clear h2 h3 HD HC
        go_enter Tryd.func7, Tryd.ntmps7
        go_wp2_with fail
        go_ret2
        exact ⟨by rw [e1.out.1, e1.out.2]; rfl, Below.refl _ _⟩
  · have j1 : (r != 1) = true := by simpa using h1
    have j2 : (r == 1) = false := by simpa using h1
    by_cases h0 : r = 2
    · subst h0
      have j3 : ((2 : Int) != 2) = false := rfl
      have j6 : ((2 : Int) == 2) = true := rfl
      by_cases h2 : a = b
      · have e1 : Hid (D = 0 ∧ C = 4) := by rw [HD.out, HC.out]; show _ ∧ _; simp [Wa.ruleDo, Wa.ruleCode, h2]
        have j4 : (a == b) = true := by simp [h2]
        clear h2 HD HC h1
        go_enter Tryd.func7, Tryd.ntmps7
        go_wp2_with fail
        go_ret2
        exact ⟨by rw [e1.out.1, e1.out.2]; rfl, Below.refl _ _⟩
      · have j4 : (a == b) = false := by simpa using h2
        by_cases h3 : a < b
        · have e1 : Hid (D = 3 ∧ C = 0) := by rw [HD.out, HC.out]; show _ ∧ _; simp [Wa.ruleDo, Wa.ruleCode, h2, h3]
          have j5 : decide (a < b) = true := by simp [h3]
          clear h2 h3 HD HC h1
          go_enter Tryd.func7, Tryd.ntmps7
          go_wp2_with fail
          go_ret2
          exact ⟨by rw [e1.out.1, e1.out.2]; rfl, Below.refl _ _⟩
        · have e1 : Hid (D = 1 ∧ C = 0) := by rw [HD.out, HC.out]; show _ ∧ _; simp [Wa.ruleDo, Wa.ruleCode, h2, h3]
          have j5 : decide (a < b) = false := by simp [h3]
          clear h2 h3 HD HC h1
          go_enter Tryd.func7, Tryd.ntmps7
          go_wp2_with fail
          go_ret2
          exact ⟨by rw [e1.out.1, e1.out.2]; rfl, Below.refl _ _⟩
    · have j3 : (r != 2) = true := by simpa using h0
      have e1 : Hid (D = 0 ∧ C = 1) := by rw [HD.out, HC.out]; show _ ∧ _; simp [Wa.ruleDo, Wa.ruleCode, h1, h0]
      clear HD HC h1 h0
      go_enter Tryd.func7, Tryd.ntmps7
      go_wp2_with fail
      go_ret2
      exact ⟨by rw [e1.out.1, e1.out.2]; rfl, Below.refl _ _⟩
end Go.Proofs.YtbgcldckgiiedacDoor.PWait
