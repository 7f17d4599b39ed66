/- run.Like, walked: it answers what the plain functions say, and nothing that was there has turned. Conditions: the operations lie where their slices say; the capacity is no less than the length. -/
import Derived.Test.YtlalpahfoafhoabRunKpc
namespace Go.Proofs.Ytlalpahfoafhoab.PRun
open Go Go.RowKit PPool PGraph
set_option maxRecDepth 100000

/-- What is wrong with two runs. -/
def likeE (X Y : List Rn.Op) : Int := if Rn.check X = 0 then Rn.check Y else Rn.check X
def likeB (X Y : List Rn.Op) : Bool := if Rn.check X = 0 then (if Rn.check Y = 0 then Rn.like X Y else false) else false
set_option maxHeartbeats 2000000 in
theorem like_any (w : World) (a1 a2 : Option Addr) (c1 c2 : Nat) (X Y : List Rn.Op) (h1 : OpAt w a1 X) (h2 : OpAt w a2 Y) (hl1 : X.length ≤ 9223372036854775807) (hl2 : Y.length ≤ 9223372036854775807) (hcap : X.length ≤ c1) :
    Calls Try.prog 41 #[.slice a1 X.length c1, .slice a2 Y.length c2] w fun e w' => e = .returned (.tuple #[.bool (likeB X Y), .int .i64 (likeE X Y)]) ∧ Below w.heap.size w w' := by
  have H1 := hid h1
  have H2 := hid h2
  have K1 := hid (check_any w a1 c1 X h1 hl1)
  have K2 := hid fun W h => check_any W a2 c2 Y h hl2
  clear h1 h2
  by_cases hv1 : Rn.check X = 0
  · by_cases hv2 : Rn.check Y = 0
    · have e1 : likeB X Y = Rn.like X Y := by unfold likeB; rw [if_pos hv1, if_pos hv2]
      have e2 : likeE X Y = 0 := by unfold likeE; rw [if_pos hv1, hv2]
      rw [e1, e2]
      rw [hv1] at K1
      rw [hv2] at K2
      have lx := (Rn.check_zero hv1).1
      have ly := (Rn.check_zero hv2).1
      have KP := hid fun W h1 h2 => placesIn_any W a1 a2 c1 c2 X Y h1 h2 lx ly (fun o ho => ⟨(Rn.good_mem hv1 ho).x0, (Rn.good_mem hv1 ho).x1⟩) (fun o ho => ⟨(Rn.good_mem hv2 ho).x0, (Rn.good_mem hv2 ho).x1⟩)
      have KK := hid fun W ap cp h1 h2 => keepsC_any W a1 ap c1 cp X (Rn.img X Y) h1 h2 lx hcap
      obtain ⟨S, hS⟩ : ∃ S, S = Rn.same X Y := ⟨_, rfl⟩
      obtain ⟨Z, hZ⟩ : ∃ Z, Z = Rn.like X Y := ⟨_, rfl⟩
      have HZ : Hid (Z = (S && Rn.keeps X (Rn.img X Y))) := by show _ = _; rw [hZ, hS]; rfl
      rw [← hS] at KP
      rw [← hZ]
      obtain ⟨Q, hQ⟩ : ∃ Q, Q = Rn.keeps X (Rn.img X Y) := ⟨_, rfl⟩
      rw [← hQ] at KK HZ
      clear hS hZ hQ e1 e2 hv1 hv2
      go_enter Try.func41, Try.ntmps41
      go_wp2_with fail
      refine (K1.out).mono ?_
      rintro r w1 ⟨rfl, hb1⟩
      go_wp2_with fail
      refine (K2.out _ (H2.out.below hb1)).mono ?_
      rintro r w2 ⟨rfl, hb2⟩
      have B2 := below_tr hb1 hb2
      clear hb1 hb2 K1 K2
      go_wp2_with fail
      refine (KP.out _ (H1.out.below B2) (H2.out.below B2)).mono ?_
      rintro r w3 ⟨v, rfl, ho, hb3⟩
      have B3 := below_tr B2 hb3
      clear hb3 B2 KP
      cases S with
      | false =>
        have HF : Hid (Z = false) := HZ.out
        clear HZ
        go_wp2_with fail
        go_ret2
        exact ⟨by rw [HF.out]; rfl, B3⟩
      | true =>
        have HF : Hid (Z = Q) := by show _ = _; rw [HZ.out]; simp
        obtain ⟨a3, c3, rfl, hn, _⟩ := (ho rfl).at_
        rw [Gr.row_len]
        clear HZ ho
        go_wp2_with fail
        refine (KK.out _ a3 c3 (H1.out.below B3) hn).mono ?_
        rintro r w4 ⟨rfl, hb4⟩
        have B4 := below_tr B3 hb4
        clear hb4 B3 KK hn
        go_wp2_with fail
        go_ret2
        exact ⟨by rw [HF.out]; rfl, B4⟩
    · have e1 : likeB X Y = false := by unfold likeB; rw [if_pos hv1, if_neg hv2]
      have e2 : likeE X Y = Rn.check Y := by unfold likeE; rw [if_pos hv1]
      rw [e1, e2]
      rw [hv1] at K1
      obtain ⟨v, hv⟩ : ∃ v, v = Rn.check Y := ⟨_, rfl⟩
      rw [← hv] at K2 hv2 ⊢
      have hv0 : (v != 0) = true := by simpa using hv2
      clear hv e1 e2 hv1 hv2
      go_enter Try.func41, Try.ntmps41
      go_wp2_with fail
      refine (K1.out).mono ?_
      rintro r w1 ⟨rfl, hb1⟩
      go_wp2_with fail
      refine (K2.out _ (H2.out.below hb1)).mono ?_
      rintro r w2 ⟨rfl, hb2⟩
      have B2 := below_tr hb1 hb2
      clear hb1 hb2 K1 K2
      go_wp2_with fail
      go_ret2
      exact ⟨rfl, B2⟩
  · have e1 : likeB X Y = false := by unfold likeB; rw [if_neg hv1]
    have e2 : likeE X Y = Rn.check X := by unfold likeE; rw [if_neg hv1]
    rw [e1, e2]
    obtain ⟨v, hv⟩ : ∃ v, v = Rn.check X := ⟨_, rfl⟩
    rw [← hv] at K1 hv1 ⊢
    have hv0 : (v != 0) = true := by simpa using hv1
    clear hv e1 e2 hv1
    go_enter Try.func41, Try.ntmps41
    go_wp2_with fail
    refine (K1.out).mono ?_
    rintro r w1 ⟨rfl, hb1⟩
    go_wp2_with fail
    go_ret2
    exact ⟨rfl, hb1⟩
end Go.Proofs.Ytlalpahfoafhoab.PRun
