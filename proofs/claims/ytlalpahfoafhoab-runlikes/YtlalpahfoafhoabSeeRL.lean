/- quirlaw.RunLikes, walked: it answers true, and nothing that was there has turned. Conditions: how many operations there are, that the capacities are no less. -/
import Derived.Test.YtlalpahfoafhoabRunRErr
import Derived.Test.YtlalpahfoafhoabRunLik
import Derived.Test.YtlalpahfoafhoabSeeAlk
import Derived.Test.YtlalpahfoafhoabSeeRLk
import Derived.Test.YtlalpahfoafhoabSeeRAl
namespace Go.Proofs.Ytlalpahfoafhoab.PSee
open Go Go.RowKit PPool PGraph PRun
set_option maxRecDepth 100000

set_option maxHeartbeats 400000 in
theorem firstOf_any (w : World) (x y : Int) :
    Calls Try.prog 40 #[.int .i64 x, .int .i64 y] w fun e w' => e = .returned (.int .i64 (if x = 0 then y else x)) ∧ w' = w := by
  by_cases h : x = 0
  · subst h
    rw [if_pos rfl]
    go_enter Try.func40, Try.ntmps40
    go_wp2_with fail
    go_ret
    exact ⟨rfl, rfl⟩
  · have hB : (x != 0) = true := by simpa using h
    rw [if_neg h]
    clear h
    go_enter Try.func40, Try.ntmps40
    go_wp2_with fail
    go_ret
    exact ⟨rfl, rfl⟩

set_option maxHeartbeats 8000000 in
theorem runlikes_walk (w : World) (a1 : Option Addr) (c1 : Nat) (X : List Rn.Op) (a2 : Option Addr) (c2 : Nat) (Y : List Rn.Op) (h1 : OpAt w a1 X) (hl1 : X.length ≤ 9223372036854775807) (hcap1 : X.length ≤ c1) (h2 : OpAt w a2 Y) (hl2 : Y.length ≤ 9223372036854775807) (hcap2 : Y.length ≤ c2) :
    Calls Try.prog 6 #[.slice a1 X.length c1, .slice a2 Y.length c2] w fun e w' => e = .returned (.bool true) ∧ Below w.heap.size w w' := by
  have H1 := hid h1
  have H2 := hid h2
  have K1 := hid (rerr_any w a1 c1 X h1 hl1 hcap1)
  have K2 := hid fun W h => rerr_any W a2 c2 Y h hl2 hcap2
  have KF := hid fun W => firstOf_any W (Rn.check X) (Rn.check Y)
  have KL := hid fun W h1 h2 => like_any W a1 a2 c1 c2 X Y h1 h2 hl1 hl2 hcap1
  have KA := hid fun W h1 h2 => alike_any W a1 a2 c1 c2 X Y h1 h2 hl1 hl2 hcap1 hcap2
  have eL : likeE X Y = if Rn.check X = 0 then Rn.check Y else Rn.check X := rfl
  have eA : alikeE X Y = if Rn.check X = 0 then Rn.check Y else Rn.check X := rfl
  rw [eL] at KL
  rw [eA] at KA
  obtain ⟨bad, hbad⟩ : ∃ b, b = if Rn.check X = 0 then Rn.check Y else Rn.check X := ⟨_, rfl⟩
  rw [← hbad] at KF KL KA
  by_cases h0 : bad = 0
  rotate_left
  · have hb0 : (bad != 0) = true := by simpa using h0
    have f1 : likeB X Y = false := by
      unfold likeB
      by_cases e : Rn.check X = 0
      · rw [if_pos e] at hbad ⊢
        rw [if_neg (by rw [← hbad]; exact h0)]
      · rw [if_neg e]
    have f2 : alikeB X Y = false := by
      unfold alikeB
      by_cases e : Rn.check X = 0
      · rw [if_pos e] at hbad ⊢
        rw [if_neg (by rw [← hbad]; exact h0)]
      · rw [if_neg e]
    rw [f1] at KL
    rw [f2] at KA
    clear eL eA hbad f1 f2 h0 h1 h2
    generalize Rn.check X = v1 at *
    generalize Rn.check Y = v2 at *
    go_enter Try.func6, Try.ntmps6
    go_wp2_with fail
    refine (K1.out).mono ?_
    rintro r w1 ⟨rfl, hb1⟩
    have B1 := hid hb1
    clear hb1 K1
    go_wp2_with fail
    refine (K2.out _ (H2.out.below B1.out)).mono ?_
    rintro r w2 ⟨rfl, hb2⟩
    have B2 : Hid (Below w.heap.size w w2) := below_tr B1.out hb2
    clear hb2 K2 B1
    go_wp2_with fail
    refine (KF.out _).mono ?_
    rintro r w3 ⟨rfl, rfl⟩
    clear KF
    go_wp2_with fail
    refine (KL.out _ (H1.out.below B2.out) (H2.out.below B2.out)).mono ?_
    rintro r w4 ⟨rfl, hb4⟩
    have B4 : Hid (Below w.heap.size w w4) := below_tr B2.out hb4
    clear hb4 KL B2
    go_wp2_with fail
    refine (KA.out _ (H1.out.below B4.out) (H2.out.below B4.out)).mono ?_
    rintro r w5 ⟨rfl, hb5⟩
    have B5 : Hid (Below w.heap.size w w5) := below_tr B4.out hb5
    clear hb5 KA B4
    go_wp2_with fail
    go_ret
    exact ⟨rfl, B5.out⟩
  have hv1 : Rn.check X = 0 := by
    by_cases e : Rn.check X = 0
    · exact e
    · rw [if_neg e] at hbad; rw [← hbad]; exact h0
  have hv2 : Rn.check Y = 0 := by rw [if_pos hv1] at hbad; rw [← hbad]; exact h0
  have f1 : likeB X Y = Rn.like X Y := by unfold likeB; rw [if_pos hv1, if_pos hv2]
  have f2 : alikeB X Y = Se.alike X Y := by unfold alikeB; rw [if_pos hv1, if_pos hv2]
  rw [f1] at KL
  rw [f2] at KA
  have KL2 := hid fun W h1 h2 => rlike_any W a1 a2 c1 c2 X Y h1 h2 hv1 hv2 hcap1
  have KA2 := hid fun W h1 h2 => ralike_any W a1 a2 c1 c2 X Y h1 h2 hv1 hv2 hcap1 hcap2
  subst h0
  clear eL eA hbad f1 f2 h1 h2 hv1 hv2
  generalize Rn.check X = v1 at *
  generalize Rn.check Y = v2 at *
  generalize Rn.like X Y = L at *
  generalize Se.alike X Y = A at *
  have hLB : (L == L) = true := by simp
  have hAB : (A == A) = true := by simp
  go_enter Try.func6, Try.ntmps6
  go_wp2_with fail
  refine (K1.out).mono ?_
  rintro r w1 ⟨rfl, hb1⟩
  have B1 := hid hb1
  clear hb1 K1
  go_wp2_with fail
  refine (K2.out _ (H2.out.below B1.out)).mono ?_
  rintro r w2 ⟨rfl, hb2⟩
  have B2 : Hid (Below w.heap.size w w2) := below_tr B1.out hb2
  clear hb2 K2 B1
  go_wp2_with fail
  refine (KF.out _).mono ?_
  rintro r w3 ⟨rfl, rfl⟩
  clear KF
  go_wp2_with fail
  refine (KL.out _ (H1.out.below B2.out) (H2.out.below B2.out)).mono ?_
  rintro r w4 ⟨rfl, hb4⟩
  have B4 : Hid (Below w.heap.size w w4) := below_tr B2.out hb4
  clear hb4 KL B2
  go_wp2_with fail
  refine (KA.out _ (H1.out.below B4.out) (H2.out.below B4.out)).mono ?_
  rintro r w5 ⟨rfl, hb5⟩
  have B5 : Hid (Below w.heap.size w w5) := below_tr B4.out hb5
  clear hb5 KA B4
  go_wp2_with fail
  refine (KL2.out _ (H1.out.below B5.out) (H2.out.below B5.out)).mono ?_
  rintro r w6 ⟨rfl, hb6⟩
  have B6 : Hid (Below w.heap.size w w6) := below_tr B5.out hb6
  clear hb6 KL2 B5
  go_wp2_with fail
  refine (KA2.out _ (H1.out.below B6.out) (H2.out.below B6.out)).mono ?_
  rintro r w7 ⟨rfl, hb7⟩
  have B7 : Hid (Below w.heap.size w w7) := below_tr B6.out hb7
  clear hb7 KA2 B6
  go_wp2_with fail
  go_ret
  exact ⟨rfl, B7.out⟩
end Go.Proofs.Ytlalpahfoafhoab.PSee
