/- quirlaw.WaitSays, walked: it answers true, and nothing that was there has turned. Conditions: how many edges there are; the library's table is as its initialiser lays it. -/
import Derived.Test.YtbgcldckgiiedacDoorWaitDed
import Derived.Test.YtbgcldckgiiedacDoorWaitVic
import Derived.Test.YtbgcldckgiiedacDoorWaitRul
import Derived.Test.YtbgcldckgiiedacDoorWaitRDd
import Derived.Test.YtbgcldckgiiedacDoorWaitRVi
import Derived.Test.YtbgcldckgiiedacDoorGraphRefErr
import Derived.Test.YtbgcldckgiiedacDoorGraphEq
namespace Go.Proofs.YtbgcldckgiiedacDoor.PWait
open Go Go.RowKit PPool PGraph
set_option maxRecDepth 100000

theorem self_any (w : World) (l : List Nat) (a1 a2 : Option Addr) (c1 c2 : Nat) (h1 : NatsAt w a1 l) (h2 : NatsAt w a2 l) (hl : l.length ≤ 9223372036854775807) :
    Calls Tryd.prog 8 #[.slice a1 l.length c1, .slice a2 l.length c2] w fun e w' => e = .returned (.bool true) ∧ Below w.heap.size w w' := by
  have := eqNats_any w a1 a2 c1 c2 l l h1 h2 hl
  rw [decide_eq_true rfl] at this
  exact this

set_option maxHeartbeats 8000000 in
theorem says_walk (w : World) (n : Int) (a : Option Addr) (c : Nat) (X : List Gr.Ed) (r x y : Int) (h : PgAt w a X) (hl : X.length ≤ 9223372036854775807) (hT : Tab w) :
    Calls Tryd.prog 3 #[.int .i64 n, .slice a X.length c, .int .i64 r, .int .i64 x, .int .i64 y] w fun e w' => e = .returned (.bool true) ∧ Below w.heap.size w w' := by
  have H := hid h
  have HT := hid hT
  have K1 := hid (err_any w n a c X h hl)
  have K2 := hid fun W hp => dead_any W n a c X hp hl
  have K3 := hid fun W hp hT => victims_any W n a c X hp hl hT
  have K4 := hid fun W => rule_any W r x y
  have HRC := hid (rule_cases r x y)
  obtain ⟨RD, hRD⟩ : ∃ RD, RD = Wa.ruleDo r x y := ⟨_, rfl⟩
  obtain ⟨RC, hRC⟩ : ∃ RC, RC = Wa.ruleCode r x y := ⟨_, rfl⟩
  rw [← hRD, ← hRC] at K4 HRC
  obtain ⟨Y, hY⟩ : ∃ Y, Y = Gr.check n X := ⟨_, rfl⟩
  rw [← hY] at K1 K2 K3
  have HY := hid hY
  clear h hT hY hRD hRC
  go_enter Tryd.func3, Tryd.ntmps3
  go_wp2_with fail
  refine (K1.out).mono ?_
  rintro r1 w1 ⟨rfl, hb1⟩
  have B1 := hid hb1
  clear hb1 K1
  go_wp2_with fail
  refine (K2.out _ (H.out.below B1.out)).mono ?_
  rintro r1 w2 ⟨v2, rfl, ho2, hb2⟩
  have B2 : Hid (Below w.heap.size w w2) := below_tr B1.out hb2
  obtain ⟨a2, c2, rfl, hp2, -⟩ := ho2.at_
  have P2 := hid hp2
  clear hb2 ho2 hp2 B1 K2
  go_wp2_with fail
  refine (K3.out _ (H.out.below B2.out) (HT.out.below B2.out)).mono ?_
  rintro r1 w3 ⟨v3, rfl, ho3, hb3⟩
  have B3 : Hid (Below w.heap.size w w3) := below_tr B2.out hb3
  have P2 := hid (P2.out.below hb3)
  obtain ⟨a3, c3, rfl, hp3, -⟩ := ho3.at_
  have P3 := hid hp3
  clear hb3 ho3 hp3 B2 K3
  go_wp2_with fail
  refine (K4.out _).mono ?_
  rintro r1 w4 ⟨rfl, hb4⟩
  have B4 : Hid (Below w.heap.size w w4) := below_tr B3.out hb4
  have P2 := hid (P2.out.below hb4)
  have P3 := hid (P3.out.below hb4)
  clear hb4 B3 K4
  by_cases h0 : Y = 0
  · have hc0 : Gr.check n X = 0 := by rw [← HY.out]; exact h0
    obtain ⟨n, rfl, hR⟩ := Right.of hc0
    have e2 : Wa.dead (n : Int) X = (List.range n).filter (Wa.lost X n) := by unfold Wa.dead; rw [if_pos hc0, Int.toNat_natCast]
    have e3 : Wa.taken (n : Int) X = Wa.vic n X.length X [] := by unfold Wa.taken; rw [if_pos hc0, Int.toNat_natCast]
    rw [e2] at P2 ⊢
    rw [e3] at P3 ⊢
    have hn := hR.1
    have hX2 := hR.2.1
    have KD := hid fun W hp => rdead_any W n a c X hp hR
    have KV := hid fun W hp => rvictims_any W n a c X hp hR
    have l2 := Gr.filter_len (Wa.lost X n) n
    have l3 := Wa.vic_len (n := n) X.length X []
    rw [← Wa.rise_len] at l3
    generalize (List.range n).filter (Wa.lost X n) = L2 at *
    generalize Wa.rise (Wa.vic n X.length X []) = L3 at *
    have KE := hid self_any
    subst h0
    have hL2 : Hid (L2.length ≤ 9223372036854775807) := by show _ ≤ _; omega
    have hL3 : Hid (L3.length ≤ 9223372036854775807) := by show _ ≤ _; simp at l3; omega
    clear hR e2 e3 hc0 hl l2 l3 hn hX2 HY
    rcases HRC.out with ⟨j1, j2, j3, j4, j5, j6, j7, rfl, rfl⟩ | ⟨j1, j2, j3, j4, j5, j6, j7, rfl, rfl⟩ | ⟨j1, j2, j3, j4, j5, j6, j7, rfl, rfl⟩ | ⟨j1, j2, j3, j4, j5, j6, j7, rfl, rfl⟩ | ⟨j1, j2, j3, j4, j5, j6, j7, rfl, rfl⟩ | ⟨j1, j2, j3, j4, j5, j6, j7, rfl, rfl⟩ | ⟨j1, j2, j3, j4, j5, j6, j7, rfl, rfl⟩
    all_goals
      clear HRC
      go_wp2_with fail
      refine (KD.out _ (H.out.below B4.out)).mono ?_
      rintro r1 w5 ⟨v5, rfl, ho5, hb5⟩
      have B5 : Hid (Below w.heap.size w w5) := below_tr B4.out hb5
      have P2 := hid (P2.out.below hb5)
      have P3 := hid (P3.out.below hb5)
      obtain ⟨a5, c5, rfl, hp5, -⟩ := ho5.at_
      have P5 := hid hp5
      clear hb5 ho5 hp5 B4 KD
      go_wp2_with fail
      refine (KE.out _ L2 a2 a5 c2 c5 P2.out P5.out hL2.out).mono ?_
      rintro r1 w6 ⟨rfl, hb6⟩
      have B6 : Hid (Below w.heap.size w w6) := below_tr B5.out hb6
      have P3 := hid (P3.out.below hb6)
      clear hb6 B5 P5 P2
      go_wp2_with fail
      refine (KV.out _ (H.out.below B6.out)).mono ?_
      rintro r1 w7 ⟨v7, rfl, ho7, hb7⟩
      have B7 : Hid (Below w.heap.size w w7) := below_tr B6.out hb7
      have P3 := hid (P3.out.below hb7)
      obtain ⟨a7, c7, rfl, hp7, -⟩ := ho7.at_
      have P7 := hid hp7
      clear hb7 ho7 hp7 B6 KV
      go_wp2_with fail
      refine (KE.out _ L3 a3 a7 c3 c7 P3.out P7.out hL3.out).mono ?_
      rintro r1 w8 ⟨rfl, hb8⟩
      have B8 : Hid (Below w.heap.size w w8) := below_tr B7.out hb8
      clear hb8 B7 P7 P3
      go_wp2_with fail
      go_ret
      exact ⟨rfl, B8.out⟩
  · have e2 : Wa.dead n X = [] := if_neg (by rw [← HY.out]; exact h0)
    have e3 : Wa.taken n X = [] := if_neg (by rw [← HY.out]; exact h0)
    rw [e2]
    rw [e3, Wa.rise_nil]
    have g1 : (Y != 0) = true := by simpa using h0
    have g2 : (Y == Y) = true := by simp
    clear h0 e2 e3 P2 P3 HY H HT
    rcases HRC.out with ⟨j1, j2, j3, j4, j5, j6, j7, rfl, rfl⟩ | ⟨j1, j2, j3, j4, j5, j6, j7, rfl, rfl⟩ | ⟨j1, j2, j3, j4, j5, j6, j7, rfl, rfl⟩ | ⟨j1, j2, j3, j4, j5, j6, j7, rfl, rfl⟩ | ⟨j1, j2, j3, j4, j5, j6, j7, rfl, rfl⟩ | ⟨j1, j2, j3, j4, j5, j6, j7, rfl, rfl⟩ | ⟨j1, j2, j3, j4, j5, j6, j7, rfl, rfl⟩
    all_goals
      clear HRC
      go_wp2_with fail
      go_ret
      exact ⟨rfl, B4.out⟩
end Go.Proofs.YtbgcldckgiiedacDoor.PWait
