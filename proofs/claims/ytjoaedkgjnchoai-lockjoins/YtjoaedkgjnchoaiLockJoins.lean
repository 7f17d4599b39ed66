/- quirkeep.LockJoins, walked (GRAY, LORIE, PUTZOLU, TRAIGER): it returns true, and nothing that was there has turned. No conditions. -/
import Derived.Test.YtjoaedkgjnchoaiLockFit
namespace Go.Proofs.Ytjoaedkgjnchoai.PLock
open Go Go.RowKit
set_option maxRecDepth 100000

theorem joins_walk (a b c : Int) (_h0 : (Lit.int .i64 a).wf = true) (_h1 : (Lit.int .i64 b).wf = true) (_h2 : (Lit.int .i64 c).wf = true) (w : World) :
    Calls Try.prog 8 #[.int .i64 a, .int .i64 b, .int .i64 c] w fun e w' => e = .returned (.bool true) ∧ Below w.heap.size w w' := by
  have KF := hid fun x y => fits_any w x y
  have KJ := hid fun x y => join2_any w x y
  have K1 := hid (KJ.out 2 3)
  rw [show joinV 2 3 = 4 from rfl, show errM 2 3 = 0 from rfl] at K1
  have K2 := hid (KF.out 3 3)
  rw [show fitV 3 3 = true from rfl, show errM 3 3 = 0 from rfl] at K2
  have K3 := hid (KJ.out a b)
  have K4 := hid (KJ.out b a)
  have K5 := hid (KF.out a b)
  have K6 := hid (KF.out b a)
  have c1 : errM b a = errM a b := by unfold errM; simp only [and_comm]
  have c2 : fitV b a = fitV a b := by unfold fitV; rw [Lk.fit_comm, Bool.and_comm (Lk.mode b)]
  have c3 : joinV b a = joinV a b := by unfold joinV; rw [Lk.join_comm]; simp only [and_comm]
  rw [c1, c3] at K4
  rw [c1, c2] at K6
  clear c1 c2 c3
  by_cases h : Lk.mode a = true ∧ Lk.mode b = true
  · have e2 : joinV a b = Lk.join a b := by unfold joinV; rw [if_pos h]
    have e3 : errM a b = 0 := by unfold errM; rw [if_pos h]
    have hj := Lk.join_mode h.1 h.2
    have K7 := hid (KJ.out a a)
    have e4 : joinV a a = a := by unfold joinV; rw [if_pos ⟨h.1, h.1⟩, Lk.join_self h.1]
    rw [e4] at K7
    have K8 := hid (KF.out a c)
    have K9 := hid (KF.out b c)
    have K10 := hid (KF.out (Lk.join a b) c)
    rw [e2, e3] at K3 K4
    rw [e3] at K5 K6
    have e5 : errM a c = if Lk.mode c = true then 0 else 1 := by unfold errM; simp [h.1]
    rw [e5] at K8
    have HC : Hid (Lk.mode c = true → fitV (Lk.join a b) c = (fitV a c && fitV b c)) := fun hc => by
      unfold fitV
      rw [h.1, h.2, hj, hc, Lk.join_fit h.1 h.2 hc]
      rfl
    generalize errM a a = z1 at *
    generalize errM b c = z2 at *
    generalize errM (Lk.join a b) c = z3 at *
    generalize fitV (Lk.join a b) c = g3 at *
    generalize fitV a c = g1 at *
    generalize fitV b c = g2 at *
    generalize fitV a b = g0 at *
    generalize Lk.join a b = j at *
    generalize Lk.mode c = mc at *
    clear e2 e3 e4 e5 h hj KF KJ _h0 _h1 _h2
    cases mc with
    | false =>
      simp only [Bool.false_eq_true, if_false] at K8
      clear HC
      go_enter Try.func8, Try.ntmps8
      go_wp2_with fail
      refine K1.out.mono ?_
      rintro r w1 ⟨rfl, rfl⟩
      go_wp2_with fail
      refine K2.out.mono ?_
      rintro r w1 ⟨rfl, rfl⟩
      go_wp2_with fail
      refine K3.out.mono ?_
      rintro r w1 ⟨rfl, rfl⟩
      go_wp2_with fail
      refine K4.out.mono ?_
      rintro r w1 ⟨rfl, rfl⟩
      go_wp2_with fail
      refine K5.out.mono ?_
      rintro r w1 ⟨rfl, rfl⟩
      go_wp2_with fail
      refine K6.out.mono ?_
      rintro r w1 ⟨rfl, rfl⟩
      go_wp2_with fail
      refine K7.out.mono ?_
      rintro r w1 ⟨rfl, rfl⟩
      go_wp2_with fail
      refine K8.out.mono ?_
      rintro r w1 ⟨rfl, rfl⟩
      go_wp2_with fail
      refine K9.out.mono ?_
      rintro r w1 ⟨rfl, rfl⟩
      go_wp2_with fail
      refine K10.out.mono ?_
      rintro r w1 ⟨rfl, rfl⟩
      go_wp2_with fail
      go_ret
      exact ⟨by simp, Below.refl _ _⟩
    | true =>
      simp only [if_true] at K8
      have e := HC.out rfl
      subst e
      clear HC
      cases g1 with
      | false =>
        go_enter Try.func8, Try.ntmps8
        go_wp2_with fail
        refine K1.out.mono ?_
        rintro r w1 ⟨rfl, rfl⟩
        go_wp2_with fail
        refine K2.out.mono ?_
        rintro r w1 ⟨rfl, rfl⟩
        go_wp2_with fail
        refine K3.out.mono ?_
        rintro r w1 ⟨rfl, rfl⟩
        go_wp2_with fail
        refine K4.out.mono ?_
        rintro r w1 ⟨rfl, rfl⟩
        go_wp2_with fail
        refine K5.out.mono ?_
        rintro r w1 ⟨rfl, rfl⟩
        go_wp2_with fail
        refine K6.out.mono ?_
        rintro r w1 ⟨rfl, rfl⟩
        go_wp2_with fail
        refine K7.out.mono ?_
        rintro r w1 ⟨rfl, rfl⟩
        go_wp2_with fail
        refine K8.out.mono ?_
        rintro r w1 ⟨rfl, rfl⟩
        go_wp2_with fail
        refine K9.out.mono ?_
        rintro r w1 ⟨rfl, rfl⟩
        go_wp2_with fail
        refine K10.out.mono ?_
        rintro r w1 ⟨rfl, rfl⟩
        go_wp2_with fail
        go_ret
        exact ⟨by simp, Below.refl _ _⟩
      | true =>
        go_enter Try.func8, Try.ntmps8
        go_wp2_with fail
        refine K1.out.mono ?_
        rintro r w1 ⟨rfl, rfl⟩
        go_wp2_with fail
        refine K2.out.mono ?_
        rintro r w1 ⟨rfl, rfl⟩
        go_wp2_with fail
        refine K3.out.mono ?_
        rintro r w1 ⟨rfl, rfl⟩
        go_wp2_with fail
        refine K4.out.mono ?_
        rintro r w1 ⟨rfl, rfl⟩
        go_wp2_with fail
        refine K5.out.mono ?_
        rintro r w1 ⟨rfl, rfl⟩
        go_wp2_with fail
        refine K6.out.mono ?_
        rintro r w1 ⟨rfl, rfl⟩
        go_wp2_with fail
        refine K7.out.mono ?_
        rintro r w1 ⟨rfl, rfl⟩
        go_wp2_with fail
        refine K8.out.mono ?_
        rintro r w1 ⟨rfl, rfl⟩
        go_wp2_with fail
        refine K9.out.mono ?_
        rintro r w1 ⟨rfl, rfl⟩
        go_wp2_with fail
        refine K10.out.mono ?_
        rintro r w1 ⟨rfl, rfl⟩
        go_wp2_with fail
        go_ret
        exact ⟨by simp, Below.refl _ _⟩
  · have e1 : fitV a b = false := by
      unfold fitV
      rw [Bool.and_eq_false_iff, Bool.and_eq_false_iff]
      by_cases h1 : Lk.mode a = true
      · exact .inl (.inr (Bool.eq_false_iff.2 fun h2 => h ⟨h1, h2⟩))
      · exact .inl (.inl (Bool.eq_false_iff.2 h1))
    have e2 : joinV a b = 0 := by unfold joinV; rw [if_neg h]
    have e3 : errM a b = 1 := by unfold errM; rw [if_neg h]
    rw [e2, e3] at K3 K4
    rw [e1, e3] at K5 K6
    clear e1 e2 e3 h KF KJ _h0 _h1 _h2
    go_enter Try.func8, Try.ntmps8
    go_wp2_with fail
    refine K1.out.mono ?_
    rintro r w1 ⟨rfl, rfl⟩
    go_wp2_with fail
    refine K2.out.mono ?_
    rintro r w1 ⟨rfl, rfl⟩
    go_wp2_with fail
    refine K3.out.mono ?_
    rintro r w1 ⟨rfl, rfl⟩
    go_wp2_with fail
    refine K4.out.mono ?_
    rintro r w1 ⟨rfl, rfl⟩
    go_wp2_with fail
    refine K5.out.mono ?_
    rintro r w1 ⟨rfl, rfl⟩
    go_wp2_with fail
    refine K6.out.mono ?_
    rintro r w1 ⟨rfl, rfl⟩
    go_wp2_with fail
    go_ret
    exact ⟨by simp, Below.refl _ _⟩
end Go.Proofs.Ytjoaedkgjnchoai.PLock
