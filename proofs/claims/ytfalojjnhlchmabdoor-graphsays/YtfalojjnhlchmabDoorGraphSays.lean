/- quirlaw.GraphSays, walked: it answers true, and nothing that was there has turned. Conditions: how many edges there are; the library's table is as its initialiser lays it. -/
import Derived.Test.YtfalojjnhlchmabDoorGraphRefErr
import Derived.Test.YtfalojjnhlchmabDoorGraphROrd
import Derived.Test.YtfalojjnhlchmabDoorGraphRPrt
import Derived.Test.YtfalojjnhlchmabDoorGraphEqF
import Derived.Test.YtfalojjnhlchmabDoorGraphOrd
import Derived.Test.YtfalojjnhlchmabDoorGraphPrt
namespace Go.Proofs.YtfalojjnhlchmabDoor.PGraph
open Go Go.RowKit PPool
set_option maxRecDepth 100000

set_option maxHeartbeats 8000000 in
theorem says_walk (w : World) (n : Int) (a : Option Addr) (c : Nat) (X : List Gr.Ed) (k : Int) (h : PgAt w a X) (hl : X.length ≤ 9223372036854775807) (hT : Tab w) :
    Calls Tryd.prog 3 #[.int .i64 n, .slice a X.length c, .int .i64 k] w fun e w' => e = .returned (.bool true) ∧ Below w.heap.size w w' := by
  have H := hid h
  have HT := hid hT
  have K1 := hid (err_any w n a c X h hl)
  have K2 := hid fun W hp => order_any W n a c X hp hl
  have K3 := hid fun W hp hT => parts_any W n a c X hp hl hT
  have K4 := hid fun W hp hT => way_any W n a c X k hp hl hT
  have K5 := hid fun W hp => check_any W n a c X hp hl
  obtain ⟨i0, hi, hz0, hz1, hz2⟩ := info_parts int_info3
  obtain ⟨Y, hY⟩ : ∃ Y, Y = Gr.check n X := ⟨_, rfl⟩
  rw [← hY] at K1 K3 K5
  have HY := hid hY
  clear h hT hY
  go_enter Tryd.func3, Tryd.ntmps3
  go_wp2_with fail
  refine (K1.out).mono ?_
  rintro r w1 ⟨rfl, hb1⟩
  have B1 := hid hb1
  clear hb1 K1
  go_wp2_with fail
  refine (K2.out _ (H.out.below B1.out)).mono ?_
  rintro r w2 ⟨v2, rfl, ho2, hb2⟩
  have B2 : Hid (Below w.heap.size w w2) := below_tr B1.out hb2
  obtain ⟨a2, c2, rfl, hp2, -⟩ := ho2.at_
  have P2 := hid hp2
  clear hb2 ho2 hp2 B1 K2
  go_wp2_with fail
  refine (K3.out _ (H.out.below B2.out) (HT.out.below B2.out)).mono ?_
  rintro r w3 ⟨v3, rfl, ho3, hb3⟩
  have B3 : Hid (Below w.heap.size w w3) := below_tr B2.out hb3
  have P2 := hid (P2.out.below hb3)
  obtain ⟨a3, c3, rfl, hp3⟩ := ho3.at_
  have P3 := hid hp3
  clear hb3 ho3 hp3 B2 K3
  go_wp2_with fail
  refine (K4.out _ (H.out.below B3.out) (HT.out.below B3.out)).mono ?_
  rintro r w4 ⟨v4, rfl, ho4, hb4⟩
  have B4 : Hid (Below w.heap.size w w4) := below_tr B3.out hb4
  have P2 := hid (P2.out.below hb4)
  have P3 := hid (P3.out.below hb4)
  obtain ⟨a4, c4, rfl, hp4, -⟩ := ho4.at_
  have P4 := hid hp4
  clear hb4 ho4 hp4 B3 K4
  go_wp2_with fail
  refine (K5.out _ (H.out.below B4.out)).mono ?_
  rintro r w5 ⟨rfl, hb5⟩
  have B5 : Hid (Below w.heap.size w w5) := below_tr B4.out hb5
  have P2 := hid (P2.out.below hb5)
  have P3 := hid (P3.out.below hb5)
  have P4 := hid (P4.out.below hb5)
  clear hb5 B4 K5
  have j1 : (Y != Y) = false := by simp
  have j1' : (Y == Y) = true := by simp
  by_cases h0 : Y = 0
  · have hc0 : Gr.check n X = 0 := by rw [← HY.out]; exact h0
    obtain ⟨n, rfl, hR⟩ := Right.of hc0
    have e3 : Gr.partList (n : Int) X = Gr.parts X n := by unfold Gr.partList; rw [if_pos hc0, Int.toNat_natCast]
    rw [e3] at P3 ⊢
    have hn := hR.1
    have HR := hid hR
    have KO := hid fun W hp => rord_any W n a c X hp hR
    have KP := hid fun W hp => rparts_any W n a c X hp hR
    have KC := hid fun W hp => clo_any W n a c X hp hR
    have hpl := Gr.parts_length X n
    have HPM := hid fun (i : Nat) (l : List Nat) => @Gr.part_mem X n i l
    have KF := hid fun W a1 a2 c1 c2 h1 h2 => eqF_any W a1 a2 c1 c2 (Gr.parts X n) (Gr.parts X n) h1 h2 (by omega) (fun l hl => by
      obtain ⟨r, _, rfl⟩ := List.mem_map.1 hl
      have := Gr.filter_len (Gr.eqv X n r) n
      have : (Gr.cls X n r).length ≤ n := this
      omega)
    rw [decide_eq_true rfl] at KF
    generalize Gr.parts X n = L at *
    have HC0 := hid hc0
    subst h0
    clear hR e3 hc0 hl
    -- what follows the orders
    go_wp2_with fail
    refine (KO.out _ (H.out.below B5.out)).mono ?_
    rintro r w6 ⟨v6, rfl, ho6, hb6⟩
    have B6 : Hid (Below w.heap.size w w6) := below_tr B5.out hb6
    have P2 := hid (P2.out.below hb6)
    have P3 := hid (P3.out.below hb6)
    have P4 := hid (P4.out.below hb6)
    obtain ⟨a6, c6, rfl, hp6, -⟩ := ho6.at_
    have P6 := hid hp6
    clear hb6 ho6 hp6 B5 KO
    have eC : Hid (Gr.ordCode (n : Int) X = if (Gr.order X n).isSome then 0 else 11) := by show _ = _; unfold Gr.ordCode; rw [if_pos HC0.out, Int.toNat_natCast]
    have eL : Hid (Gr.ordList (n : Int) X = (Gr.order X n).getD []) := by show _ = _; unfold Gr.ordList; rw [if_pos HC0.out, Int.toNat_natCast]
    have hll : (Gr.ordList (n : Int) X).length ≤ 9223372036854775807 := by
      rw [eL.out]
      cases ho : Gr.order X n with
      | none => decide
      | some l => have := (Gr.order_some ho).2; show l.length ≤ _; omega
    rw [← eL.out] at P6 ⊢
    have KQ := hid fun W h1 h2 => eqNats_any W a2 a6 c2 c6 (Gr.ordList (n : Int) X) (Gr.ordList (n : Int) X) h1 h2 hll
    rw [decide_eq_true rfl] at KQ
    have EE : Hid ((Gr.order X n).isSome = false → Gr.ordCode (n : Int) X = 11 ∧ Gr.ordList (n : Int) X = []) := fun e => by
      rw [eC.out, eL.out, e]
      cases ho : Gr.order X n with
      | none => exact ⟨rfl, rfl⟩
      | some l => rw [ho] at e; cases e
    have ES : Hid ((Gr.order X n).isSome = true → Gr.ordCode (n : Int) X = 0) := fun e => by rw [eC.out, e]; rfl
    generalize Gr.ordList (n : Int) X = l at *
    generalize Gr.ordCode (n : Int) X = oc at *
    generalize (Gr.order X n).isSome = os at *
    clear eC eL hll
    cases os with
    | false =>
      obtain ⟨e1, e2⟩ := EE.out rfl
      subst e1; subst e2
      clear EE ES KQ P2 P6
      go_wp2_with fail
      refine (KP.out _ (H.out.below B6.out)).mono ?_
      rintro r w8 ⟨v8, rfl, ho8, hb8⟩
      have B8 : Hid (Below w.heap.size w w8) := below_tr B6.out hb8
      have P3 := hid (P3.out.below hb8)
      have P4 := hid (P4.out.below hb8)
      obtain ⟨a8, c8, rfl, hp8⟩ := ho8.at_
      have P8 := hid hp8
      clear hb8 ho8 hp8 KP
      go_wp2_with fail
      refine (KF.out _ a3 a8 c3 c8 P3.out P8.out).mono ?_
      rintro r w9 ⟨rfl, hb9⟩
      have B9 : Hid (Below w.heap.size w w9) := below_tr B8.out hb9
      have P4 := hid (P4.out.below hb9)
      clear hb9 KF P3 P8 B8
      cases hk : Gr.node (n : Int) k with
      | false =>
        have e4 : Gr.wayCode (n : Int) X k = 1 := by unfold Gr.wayCode; rw [if_pos HC0.out, hk]; rfl
        have e5 : Gr.wayList (n : Int) X k = [] := by unfold Gr.wayList; rw [if_pos HC0.out, hk]; rfl
        rw [e4, e5]
        clear e4 e5 P4
        by_cases g1 : k < 0
        · have q1 : decide (k < 0) = true := by simpa using g1
          clear hk
          go_wp2_with fail
          go_ret
          exact ⟨rfl, B9.out⟩
        · have q1 : decide (k < 0) = false := by simpa using g1
          have g2 : (n : Int) ≤ k := by simp [Gr.node] at hk; omega
          have q2 : decide ((n : Int) ≤ k) = true := by simpa using g2
          clear hk
          go_wp2_with fail
          go_ret
          exact ⟨rfl, B9.out⟩
      | true =>
        obtain ⟨k, rfl, hkn⟩ : ∃ m : Nat, k = m ∧ m < n := by
          simp [Gr.node] at hk
          exact ⟨k.toNat, by omega, by omega⟩
        obtain ⟨e4, e5⟩ := Gr.way_self HC0.out hkn
        rw [e5] at P4
        rw [e4, e5]
        have g1 : decide ((k : Int) < 0) = false := by simp
        have g2 : decide ((n : Int) ≤ (k : Int)) = false := by simp; omega
        have k0 : (0 : Int) ≤ (k : Int) := by omega
        have k1 : (k : Int) < (n : Int) := by omega
        have hfl := Gr.filter_len (Gr.W X n k) n
        have HW : Hid ((List.range n).filter (Gr.W X n k) = (List.range n).filter (Gr.W X n k)) := rfl
        have KG := hid fun W a1 a2 c1 c2 h1 h2 => eqNats_any W a1 a2 c1 c2 ((List.range n).filter (Gr.W X n k)) ((List.range n).filter (Gr.W X n k)) h1 h2 (by omega)
        rw [decide_eq_true rfl] at KG
        obtain ⟨LW, hLW⟩ : ∃ LW, LW = (List.range n).filter (Gr.W X n k) := ⟨_, rfl⟩
        rw [← hLW] at P4 KG hfl ⊢
        have HLW := hid hLW
        clear e4 e5 hk hLW HW
        go_wp2_with fail
        refine (KC.out _ (H.out.below B9.out)).mono ?_
        rintro r w10 ⟨rfl, hm10, hb10⟩
        have B10 : Hid (Below w.heap.size w w10) := below_tr B9.out hb10
        have P4z := hid (P4.out.below hb10)
        have d1 := hm10.head hkn
        have HM := hid hm10
        clear hb10 hm10 KC
        go_wp2_with fail
        go_loopw [130, 16] (fun i v wr => ∃ q : Nat, q ≤ n ∧ i = .int .i64 (q : Int) ∧ Hid (OwnNats wr w10.heap.size v ((List.range q).filter (Gr.W X n k))) ∧ Hid (Below w10.heap.size w10 wr)) (fun i _ _ => n - (intOf i).toNat)
        case atStart => exact ⟨0, Nat.zero_le _, rfl, OwnR.nil _ _, Below.refl _ _⟩
        case round =>
          clear d1
          obtain ⟨q, hq, rfl, hP, hb⟩ := hrel
          obtain ⟨pv, pc', rfl, -⟩ := hP.out.at_
          by_cases hlq : q < n
          · have q0 : (0 : Int) ≤ (q : Int) := by omega
            have q1 : (q : Int) < (n : Int) := by omega
            have d2 := (HM.out.below hb.out).cell hkn hlq
            have hfn := Gr.filter_next (Gr.W X n k) q
            have hfl2 := Gr.filter_len (Gr.W X n k) q
            have hbs := hb.out.size
            obtain ⟨L1, hL1⟩ : ∃ L1, L1 = (List.range (q + 1)).filter (Gr.W X n k) := ⟨_, rfl⟩
            obtain ⟨L0, hL0⟩ : ∃ L0, L0 = (List.range q).filter (Gr.W X n k) := ⟨_, rfl⟩
            rw [← hL1, ← hL0] at hfn
            rw [← hL0] at hP hfl2 ⊢
            have HL1 := hid hL1
            have HFN := hid hfn
            have hown : wr.ownsRow w10.heap.size 3 1 (.slice pv L0.length pc') L0.length (L0.map nc) := hP.out
            clear hL1 hL0 hfn
            cases hv : Gr.W X n k q with
            | false =>
              rw [hv] at d2 HFN
              have O4 : Hid (OwnNats wr w10.heap.size (.slice pv L0.length pc') L1) := by rw [HFN.out]; simpa using hP
              clear hv HFN hown hP
              go_wp2_with fail
              go_roundw
              case rel => exact ⟨q + 1, by omega, by go_num, by rw [← HL1.out]; exact O4, hb⟩
              case measure => simp [intOf]; omega
            | true =>
              rw [hv] at d2 HFN
              have E1 : Hid (L1 = L0 ++ [q]) := by show _ = _; rw [HFN.out]; rfl
              clear hv HFN
              go_wp2_with (at_builtin; refine wpList_append_own _ rfl _ _ 25 rfl w10.heap.size 3 i0 (.int .i64 0) 1 8 Tryd.underlying25 hi hz0 hz1 hz2 rfl (by decide) _ _ _ rfl (hown.alloc _) ⟨wr.heap.size, 0, none⟩ 1 1 [nc q] rfl rfl ?c1 ?c2 ?c3 ?c4 ?c5 ?_)
              case c1 => exact cell_one_new _ _ _
              case c2 => exact nats_one [q]
              case c3 => unfold maxLen; omega
              case c4 => omega
              case c5 => simp; omega
              intro v' w11 hown' hgrow hnil
              have O4 : Hid (OwnNats w11 w10.heap.size v' L1) := by rw [E1.out]; exact OwnR.grows hown'
              have B4 : Hid (Below w10.heap.size w10 w11) := (hb.out.alloc hbs _).grown hgrow (by rw [World.size_alloc]; omega) (fun b hb => (hown.lt b hb).1)
              clear hown' hgrow hnil hown hb hP
              go_wp2_with fail
              go_roundw
              case rel => exact ⟨q + 1, by omega, by go_num, by rw [← HL1.out]; exact O4, B4⟩
              case measure => simp [intOf]; omega
          · obtain rfl : q = n := by omega
            have j4 : decide ((q : Int) < (q : Int)) = false := by simp
            have PW := hP.out.at_
            rw [← HLW.out] at PW ⊢
            obtain ⟨pv', pc2, e, hpp, -⟩ := PW
            injection e with e1 _ e3
            subst e1; subst e3
            have HPP := hid hpp
            clear hP hpp
            go_wp2_with fail
            refine (KG.out _ a4 pv c4 pc' (P4z.out.below hb.out) HPP.out).mono ?_
            rintro r w12 ⟨rfl, hb12⟩
            go_wp2_with fail
            go_ret
            exact ⟨rfl, below_tr B10.out (below_tr hb.out hb12)⟩
    | true =>
      have e1 := ES.out rfl
      subst e1
      clear EE ES
      go_wp2_with fail
      refine (KQ.out _ P2.out P6.out).mono ?_
      rintro r w7 ⟨rfl, hb7⟩
      have B7 : Hid (Below w.heap.size w w7) := below_tr B6.out hb7
      have P3 := hid (P3.out.below hb7)
      have P4 := hid (P4.out.below hb7)
      clear hb7 KQ P2 P6 B6
      go_wp2_with fail
      refine (KP.out _ (H.out.below B7.out)).mono ?_
      rintro r w8 ⟨v8, rfl, ho8, hb8⟩
      have B8 : Hid (Below w.heap.size w w8) := below_tr B7.out hb8
      have P3 := hid (P3.out.below hb8)
      have P4 := hid (P4.out.below hb8)
      obtain ⟨a8, c8, rfl, hp8⟩ := ho8.at_
      have P8 := hid hp8
      clear hb8 ho8 hp8 KP
      go_wp2_with fail
      refine (KF.out _ a3 a8 c3 c8 P3.out P8.out).mono ?_
      rintro r w9 ⟨rfl, hb9⟩
      have B9 : Hid (Below w.heap.size w w9) := below_tr B8.out hb9
      have P4 := hid (P4.out.below hb9)
      clear hb9 KF P3 P8 B8
      cases hk : Gr.node (n : Int) k with
      | false =>
        have e4 : Gr.wayCode (n : Int) X k = 1 := by unfold Gr.wayCode; rw [if_pos HC0.out, hk]; rfl
        have e5 : Gr.wayList (n : Int) X k = [] := by unfold Gr.wayList; rw [if_pos HC0.out, hk]; rfl
        rw [e4, e5]
        clear e4 e5 P4
        by_cases g1 : k < 0
        · have q1 : decide (k < 0) = true := by simpa using g1
          clear hk
          go_wp2_with fail
          go_ret
          exact ⟨rfl, B9.out⟩
        · have q1 : decide (k < 0) = false := by simpa using g1
          have g2 : (n : Int) ≤ k := by simp [Gr.node] at hk; omega
          have q2 : decide ((n : Int) ≤ k) = true := by simpa using g2
          clear hk
          go_wp2_with fail
          go_ret
          exact ⟨rfl, B9.out⟩
      | true =>
        obtain ⟨k, rfl, hkn⟩ : ∃ m : Nat, k = m ∧ m < n := by
          simp [Gr.node] at hk
          exact ⟨k.toNat, by omega, by omega⟩
        obtain ⟨e4, e5⟩ := Gr.way_self HC0.out hkn
        rw [e5] at P4
        rw [e4, e5]
        have g1 : decide ((k : Int) < 0) = false := by simp
        have g2 : decide ((n : Int) ≤ (k : Int)) = false := by simp; omega
        have k0 : (0 : Int) ≤ (k : Int) := by omega
        have k1 : (k : Int) < (n : Int) := by omega
        have hfl := Gr.filter_len (Gr.W X n k) n
        have HW : Hid ((List.range n).filter (Gr.W X n k) = (List.range n).filter (Gr.W X n k)) := rfl
        have KG := hid fun W a1 a2 c1 c2 h1 h2 => eqNats_any W a1 a2 c1 c2 ((List.range n).filter (Gr.W X n k)) ((List.range n).filter (Gr.W X n k)) h1 h2 (by omega)
        rw [decide_eq_true rfl] at KG
        obtain ⟨LW, hLW⟩ : ∃ LW, LW = (List.range n).filter (Gr.W X n k) := ⟨_, rfl⟩
        rw [← hLW] at P4 KG hfl ⊢
        have HLW := hid hLW
        clear e4 e5 hk hLW HW
        go_wp2_with fail
        refine (KC.out _ (H.out.below B9.out)).mono ?_
        rintro r w10 ⟨rfl, hm10, hb10⟩
        have B10 : Hid (Below w.heap.size w w10) := below_tr B9.out hb10
        have P4z := hid (P4.out.below hb10)
        have d1 := hm10.head hkn
        have HM := hid hm10
        clear hb10 hm10 KC
        go_wp2_with fail
        go_loopw [130, 16] (fun i v wr => ∃ q : Nat, q ≤ n ∧ i = .int .i64 (q : Int) ∧ Hid (OwnNats wr w10.heap.size v ((List.range q).filter (Gr.W X n k))) ∧ Hid (Below w10.heap.size w10 wr)) (fun i _ _ => n - (intOf i).toNat)
        case atStart => exact ⟨0, Nat.zero_le _, rfl, OwnR.nil _ _, Below.refl _ _⟩
        case round =>
          clear d1
          obtain ⟨q, hq, rfl, hP, hb⟩ := hrel
          obtain ⟨pv, pc', rfl, -⟩ := hP.out.at_
          by_cases hlq : q < n
          · have q0 : (0 : Int) ≤ (q : Int) := by omega
            have q1 : (q : Int) < (n : Int) := by omega
            have d2 := (HM.out.below hb.out).cell hkn hlq
            have hfn := Gr.filter_next (Gr.W X n k) q
            have hfl2 := Gr.filter_len (Gr.W X n k) q
            have hbs := hb.out.size
            obtain ⟨L1, hL1⟩ : ∃ L1, L1 = (List.range (q + 1)).filter (Gr.W X n k) := ⟨_, rfl⟩
            obtain ⟨L0, hL0⟩ : ∃ L0, L0 = (List.range q).filter (Gr.W X n k) := ⟨_, rfl⟩
            rw [← hL1, ← hL0] at hfn
            rw [← hL0] at hP hfl2 ⊢
            have HL1 := hid hL1
            have HFN := hid hfn
            have hown : wr.ownsRow w10.heap.size 3 1 (.slice pv L0.length pc') L0.length (L0.map nc) := hP.out
            clear hL1 hL0 hfn
            cases hv : Gr.W X n k q with
            | false =>
              rw [hv] at d2 HFN
              have O4 : Hid (OwnNats wr w10.heap.size (.slice pv L0.length pc') L1) := by rw [HFN.out]; simpa using hP
              clear hv HFN hown hP
              go_wp2_with fail
              go_roundw
              case rel => exact ⟨q + 1, by omega, by go_num, by rw [← HL1.out]; exact O4, hb⟩
              case measure => simp [intOf]; omega
            | true =>
              rw [hv] at d2 HFN
              have E1 : Hid (L1 = L0 ++ [q]) := by show _ = _; rw [HFN.out]; rfl
              clear hv HFN
              go_wp2_with (at_builtin; refine wpList_append_own _ rfl _ _ 25 rfl w10.heap.size 3 i0 (.int .i64 0) 1 8 Tryd.underlying25 hi hz0 hz1 hz2 rfl (by decide) _ _ _ rfl (hown.alloc _) ⟨wr.heap.size, 0, none⟩ 1 1 [nc q] rfl rfl ?c1 ?c2 ?c3 ?c4 ?c5 ?_)
              case c1 => exact cell_one_new _ _ _
              case c2 => exact nats_one [q]
              case c3 => unfold maxLen; omega
              case c4 => omega
              case c5 => simp; omega
              intro v' w11 hown' hgrow hnil
              have O4 : Hid (OwnNats w11 w10.heap.size v' L1) := by rw [E1.out]; exact OwnR.grows hown'
              have B4 : Hid (Below w10.heap.size w10 w11) := (hb.out.alloc hbs _).grown hgrow (by rw [World.size_alloc]; omega) (fun b hb => (hown.lt b hb).1)
              clear hown' hgrow hnil hown hb hP
              go_wp2_with fail
              go_roundw
              case rel => exact ⟨q + 1, by omega, by go_num, by rw [← HL1.out]; exact O4, B4⟩
              case measure => simp [intOf]; omega
          · obtain rfl : q = n := by omega
            have j4 : decide ((q : Int) < (q : Int)) = false := by simp
            have PW := hP.out.at_
            rw [← HLW.out] at PW ⊢
            obtain ⟨pv', pc2, e, hpp, -⟩ := PW
            injection e with e1 _ e3
            subst e1; subst e3
            have HPP := hid hpp
            clear hP hpp
            go_wp2_with fail
            refine (KG.out _ a4 pv c4 pc' (P4z.out.below hb.out) HPP.out).mono ?_
            rintro r w12 ⟨rfl, hb12⟩
            go_wp2_with fail
            go_ret
            exact ⟨rfl, below_tr B10.out (below_tr hb.out hb12)⟩
  · have e1 : Gr.ordCode n X = Y := by unfold Gr.ordCode; rw [if_neg (by rw [← HY.out]; exact h0), HY.out]
    have e2 : Gr.ordList n X = [] := by unfold Gr.ordList; rw [if_neg (by rw [← HY.out]; exact h0)]
    have e3 : Gr.partList n X = [] := by unfold Gr.partList; rw [if_neg (by rw [← HY.out]; exact h0)]
    have e4 : Gr.wayCode n X k = Y := by unfold Gr.wayCode; rw [if_neg (by rw [← HY.out]; exact h0), HY.out]
    have e5 : Gr.wayList n X k = [] := by unfold Gr.wayList; rw [if_neg (by rw [← HY.out]; exact h0)]
    rw [e1, e2, e3, e4, e5]
    have j2 : (Y != 0) = true := by simpa using h0
    clear e1 e2 e3 e4 e5 P2 P3 P4 h0 HY
    go_wp2_with fail
    go_ret
    exact ⟨rfl, B5.out⟩
end Go.Proofs.YtfalojjnhlchmabDoor.PGraph
