/- quirlaw.LockModes, walked: it returns true, and nothing that was there has turned. No conditions. -/
import Derived.Test.YtjoaedkgjnchoacLockFit
import Derived.Test.YtjoaedkgjnchoacLockRFit
namespace Go.Proofs.Ytjoaedkgjnchoac.PLock
open Go Go.RowKit
set_option maxRecDepth 100000

theorem modes_walk (a b : Int) (_h0 : (Lit.int .i64 a).wf = true) (_h1 : (Lit.int .i64 b).wf = true) (w : World) :
    Calls Try.prog 3 #[.int .i64 a, .int .i64 b] w fun e w' => e = .returned (.bool true) ∧ Below w.heap.size w w' := by
  obtain ⟨A, B, hA, hB, hmin, hmax⟩ := mm a b
  have K1 := hid (fits_any w a b)
  have K2 := hid (join2_any w a b)
  by_cases h : Lk.mode a = true ∧ Lk.mode b = true
  · have e1 : fitV a b = Lk.fit a b := by unfold fitV; rw [h.1, h.2]; rfl
    have e2 : joinV a b = Lk.join a b := by unfold joinV; rw [if_pos h]
    have e3 : errM a b = 0 := by unfold errM; rw [if_pos h]
    rw [e1, e3] at K1
    rw [e2, e3] at K2
    have K3 := hid (rfits_any w a b)
    have K4 := hid (rjoin_any w a b h.1 h.2)
    have ha := Lk.mode_iff.1 h.1
    have hb := Lk.mode_iff.1 h.2
    have j1 : ¬ A < 1 := by omega
    have j2 : ¬ 5 < B := by omega
    have j1' : decide (A < 1) = false := by simpa using j1
    have j2' : decide (5 < B) = false := by simpa using j2
    generalize Lk.fit a b = f at *
    generalize Lk.join a b = j at *
    clear e1 e2 e3 h ha hb hA hB _h0 _h1
    go_enter Try.func3, Try.ntmps3
    go_wp2_with fail
    refine K1.out.mono ?_
    rintro r w1 ⟨rfl, rfl⟩
    go_wp2_with fail
    refine K2.out.mono ?_
    rintro r w1 ⟨rfl, rfl⟩
    go_wp2_with fail
    refine K3.out.mono ?_
    rintro r w1 ⟨rfl, rfl⟩
    go_wp2_with fail
    refine K4.out.mono ?_
    rintro r w1 ⟨rfl, rfl⟩
    go_wp2_with fail
    go_ret
    exact ⟨by simp, Below.refl _ _⟩
  · have e1 : fitV a b = false := by
      unfold fitV
      rw [Bool.and_eq_false_iff, Bool.and_eq_false_iff]
      by_cases h1 : Lk.mode a = true
      · exact .inl (.inr (Bool.eq_false_iff.2 fun h2 => h ⟨h1, h2⟩))
      · exact .inl (.inl (Bool.eq_false_iff.2 h1))
    have e2 : joinV a b = 0 := by unfold joinV; rw [if_neg h]
    have e3 : errM a b = 1 := by unfold errM; rw [if_neg h]
    rw [e1, e3] at K1
    rw [e2, e3] at K2
    rw [Lk.mode_iff, Lk.mode_iff] at h
    by_cases j1 : A < 1
    · have j1' : decide (A < 1) = true := by simpa using j1
      clear e1 e2 e3 h hA hB _h0 _h1
      go_enter Try.func3, Try.ntmps3
      go_wp2_with fail
      refine K1.out.mono ?_
      rintro r w1 ⟨rfl, rfl⟩
      go_wp2_with fail
      refine K2.out.mono ?_
      rintro r w1 ⟨rfl, rfl⟩
      go_wp2_with fail
      go_ret
      exact ⟨by simp, Below.refl _ _⟩
    · have j1' : decide (A < 1) = false := by simpa using j1
      have j2 : 5 < B := by omega
      have j2' : decide (5 < B) = true := by simpa using j2
      clear e1 e2 e3 h hA hB _h0 _h1
      go_enter Try.func3, Try.ntmps3
      go_wp2_with fail
      refine K1.out.mono ?_
      rintro r w1 ⟨rfl, rfl⟩
      go_wp2_with fail
      refine K2.out.mono ?_
      rintro r w1 ⟨rfl, rfl⟩
      go_wp2_with fail
      go_ret
      exact ⟨by simp, Below.refl _ _⟩
end Go.Proofs.Ytjoaedkgjnchoac.PLock
