/- quirkeep.LeafRoom, walked: it answers true, and nothing that was there has turned. Conditions: how many slots there are, how long the texts are. -/
import Derived.Test.YtiaddijibaclkagLeafFree
import Derived.Test.YtiaddijibaclkagLeafSet
namespace Go.Proofs.Ytiaddijibaclkag.PLeaf
open Go Go.RowKit
set_option maxRecDepth 100000

theorem free_nil : Lf.free [] = 511 := by decide
theorem check_nil : Lf.check [] = 0 := by decide

set_option maxHeartbeats 4000000 in
theorem room_walk (w : World) (a : Option Addr) (c : Nat) (X : List Lf.Sl) (t : ByteArray) (h : PgIn w a X) (ht : t.size ≤ 140737488355328) :
    Calls Try.prog 4 #[.agg #[.slice a X.length c], .string t] w fun e w' => e = .returned (.bool true) ∧ Below w.heap.size w w' := by
  have K0 := hid fun W => free_any W none 0 [] ⟨PgAt.nil _ _, by simp, fun x hx => by simp at hx⟩
  rw [free_nil, check_nil] at K0
  have K1 := hid fun W (hW : PgIn W a X) => free_any W a c X hW
  have K2 := hid fun W (hW : PgIn W a X) => put_any W a c X t hW ht
  have hl := h.len
  have H := hid h
  have hl' : (X.length : Int) ≤ 5864062014806 := by omega
  have ht' : (t.size : Int) ≤ 140737488355328 := by omega
  clear h
  by_cases hc : Lf.check X = 0
  · have hP : Lf.put X t = if Lf.check (Lf.putX X t) = 0 then (Lf.putX X t, Lf.first X, 0) else ([], 0, 8) := by unfold Lf.put; rw [if_pos hc]
    have hF : Lf.free X = 512 - Lf.size X := by unfold Lf.free; rw [if_pos hc]
    have hs := (Lf.check_ok hc).2.2.2
    rw [hc, hF, show ((512 - Lf.size X : Nat) : Int) = 512 - (Lf.size X : Int) by omega] at K1
    by_cases hz : Lf.check (Lf.putX X t) = 0
    · rw [if_pos hz] at hP
      obtain ⟨r1, r2, r3, _⟩ := Lf.room_some hc hz
      have hl2 := (Lf.check_ok hz).1
      have hF2 : Lf.free (Lf.putX X t) = 512 - Lf.size (Lf.putX X t) := by unfold Lf.free; rw [if_pos hz]
      have HTP : Hid (Txs (Lf.putX X t)) := by
        show Txs _
        have hm := Lf.text_le (Lf.putX X t)
        have := Lf.size_eq (Lf.putX X t)
        intro x hx
        have := hm x hx
        omega
      rw [hP] at K2
      have K3 := hid fun W a' c' (hW : PgIn W a' (Lf.putX X t)) => free_any W a' c' (Lf.putX X t) hW
      rw [hz, hF2, show ((512 - Lf.size (Lf.putX X t) : Nat) : Int) = 512 - (Lf.size (Lf.putX X t) : Int) by omega] at K3
      generalize Lf.putX X t = Z at *
      generalize Lf.first X = F at *
      generalize Lf.size X = S at *
      generalize Lf.size Z = S' at *
      clear hc hP hF hz hF2
      go_enter Try.func4, Try.ntmps4
      go_wp2_with fail
      refine (K0.out _).mono ?_
      rintro r w1 ⟨rfl, hb⟩
      have c0 := box1 hb
      have B1 := hid hb
      clear hb K0
      go_wp2_with fail
      refine (K1.out _ (H.out.below (below_tr (bx _ _) B1.out))).mono ?_
      rintro r w2 ⟨rfl, hb⟩
      have B2 := hid (below_tr B1.out hb)
      have c0 := box1 B2.out
      clear hb K1 B1
      go_wp2_with fail
      refine (K2.out _ (H.out.below (below_tr (bx _ _) B2.out))).mono ?_
      rintro r w3 ⟨v, rfl, ho, hb⟩
      have B3 := hid (below_tr B2.out hb)
      have c0 := box1 B3.out
      obtain ⟨a3, c3, rfl, hp3, _⟩ := ho.at_
      have P3 : Hid (PgIn w3 a3 Z) := ⟨hp3, by omega, HTP.out⟩
      have j1 : (0 : Int) ≤ 512 - (S' : Int) := by omega
      have j2 : 512 - (S' : Int) ≤ 512 - (S : Int) - (t.size : Int) := by omega
      have j3 : 512 - (S : Int) - (t.size : Int) - (512 - (S' : Int)) ≤ 2 := by omega
      clear hb ho hp3 K2 B2
      go_wp2_with fail
      refine (K3.out _ _ _ (P3.out.below (bx _ _))).mono ?_
      rintro r w4 ⟨rfl, hb⟩
      have B4 := hid (below_tr (below_tr B3.out (bx _ _)) hb)
      clear hb B3 P3 K3
      go_wp2_with fail
      go_ret
      exact ⟨rfl, below_tr (bx _ _) B4.out⟩
    · rw [if_neg hz] at hP
      have hr := Lf.room_none hc hz
      rw [hP] at K2
      generalize Lf.size X = S at *
      clear hc hP hF hz
      by_cases hq : 512 ≤ t.size + 2 + S
      · have j1 : 512 - (S : Int) ≤ (t.size : Int) + 2 := by omega
        clear hr hq
        go_enter Try.func4, Try.ntmps4
        go_wp2_with fail
        refine (K0.out _).mono ?_
        rintro r w1 ⟨rfl, hb⟩
        have c0 := box1 hb
        have B1 := hid hb
        clear hb K0
        go_wp2_with fail
        refine (K1.out _ (H.out.below (below_tr (bx _ _) B1.out))).mono ?_
        rintro r w2 ⟨rfl, hb⟩
        have B2 := hid (below_tr B1.out hb)
        have c0 := box1 B2.out
        clear hb K1 B1
        go_wp2_with fail
        refine (K2.out _ (H.out.below (below_tr (bx _ _) B2.out))).mono ?_
        rintro r w3 ⟨v, rfl, ho, hb⟩
        have B3 := hid (below_tr B2.out hb)
        have c0 := box1 B3.out
        obtain ⟨a3, c3, rfl, _⟩ := ho.at_
        clear hb ho K2 B2
        go_wp2_with fail
        go_ret
        exact ⟨rfl, below_tr (bx _ _) (below_tr B3.out (bx _ _))⟩
      · have j1 : ¬ 512 - (S : Int) ≤ (t.size : Int) + 2 := by omega
        have j2 : X.length = 40 := by omega
        have j3 : ((X.length : Int) == 40) = true := by simp; omega
        have j4 : (X.length == 40) = true := by simp; omega
        clear hr hq j2
        go_enter Try.func4, Try.ntmps4
        go_wp2_with fail
        refine (K0.out _).mono ?_
        rintro r w1 ⟨rfl, hb⟩
        have c0 := box1 hb
        have B1 := hid hb
        clear hb K0
        go_wp2_with fail
        refine (K1.out _ (H.out.below (below_tr (bx _ _) B1.out))).mono ?_
        rintro r w2 ⟨rfl, hb⟩
        have B2 := hid (below_tr B1.out hb)
        have c0 := box1 B2.out
        clear hb K1 B1
        go_wp2_with fail
        refine (K2.out _ (H.out.below (below_tr (bx _ _) B2.out))).mono ?_
        rintro r w3 ⟨v, rfl, ho, hb⟩
        have B3 := hid (below_tr B2.out hb)
        have c0 := box1 B3.out
        obtain ⟨a3, c3, rfl, _⟩ := ho.at_
        have c0' : (w3.alloc (.cells #[.slice a3 0 c3] 24)).cell? ⟨w.heap.size, 0, none⟩ = some (.slice a X.length c) := box1 (below_tr B3.out (bx _ _))
        clear hb ho K2 B2
        go_wp2_with fail
        go_ret
        exact ⟨rfl, below_tr (bx _ _) (below_tr B3.out (bx _ _))⟩
  · have HF : Lf.free X = 0 := by unfold Lf.free; rw [if_neg hc]
    have K4 := hid fun W (hW : PgIn W a X) => check_any W a c X hW.at_ (by omega) hW.txs
    rw [HF] at K1
    have hcl := Lf.check_le X
    generalize Lf.check X = C at *
    have hne : ((C : Int) != 0) = true := by simp; omega
    clear K2 hc HF
    go_enter Try.func4, Try.ntmps4
    go_wp2_with fail
    refine (K0.out _).mono ?_
    rintro r w1 ⟨rfl, hb⟩
    have c0 := box1 hb
    have B1 := hid hb
    clear hb K0
    go_wp2_with fail
    refine (K1.out _ (H.out.below (below_tr (bx _ _) B1.out))).mono ?_
    rintro r w2 ⟨rfl, hb⟩
    have B2 := hid (below_tr B1.out hb)
    have c0 := box1 B2.out
    clear hb K1 B1
    go_wp2_with fail
    refine (K4.out _ (H.out.below (below_tr (bx _ _) B2.out))).mono ?_
    rintro r w3 ⟨rfl, hb⟩
    have B3 := hid (below_tr B2.out hb)
    clear hb K4 B2 c0
    go_wp2_with fail
    go_ret
    exact ⟨rfl, below_tr (bx _ _) B3.out⟩

end Go.Proofs.Ytiaddijibaclkag.PLeaf
