/- quirlaw.LockSays, walked: whatever table and whatever numbers: it returns true, and nothing that was there has turned. Conditions: the table lies where its slice says; a length that an int holds. -/
import Derived.Test.YtjoaedkgjnchoacLockRWd
import Derived.Test.YtjoaedkgjnchoacLockRDp
import Derived.Test.YtjoaedkgjnchoacLockRSm
import Derived.Test.YtjoaedkgjnchoacLockRCk
import Derived.Test.YtjoaedkgjnchoacLockAk
import Derived.Test.YtjoaedkgjnchoacLockEqG
import Derived.Test.YtjoaedkgjnchoacLockEqI
namespace Go.Proofs.Ytjoaedkgjnchoac.PLock
open Go Go.RowKit PPool PGraph
set_option maxRecDepth 100000

theorem TbIn.v {w : World} {base : Nat} {v : Value} {T : List Lk.It} (h : TbIn w base v T) : TbV w v T := h.at_

set_option maxHeartbeats 8000000 in
theorem says_walk (w : World) (a : Option Addr) (c : Nat) (T : List Lk.It) (t i m : Int) (h : TbAt w a T) (hl : T.length ≤ 9223372036854775807) :
    Calls Try.prog 4 #[.slice a T.length c, .int .i64 t, .int .i64 i, .int .i64 m] w fun e w' => e = .returned (.bool true) ∧ Below w.heap.size w w' := by
  have H := hid h
  have K1 := hid (rerr_any w a c T h hl)
  have KA := hid fun W hW => ask2_any W a c T t i m (h.below hW) hl
  have KD := hid fun W hW => drop_any W a c T t (h.below hW) hl
  have KW := hid fun W hW => waits_any W a c T (h.below hW) hl
  have KC := hid fun W hW => check_any W a c T (h.below hW) hl
  clear h
  go_enter Try.func4, Try.ntmps4
  go_wp2_with fail
  refine K1.out.mono ?_
  rintro r w1 ⟨rfl, hb1⟩
  have B1 := hid hb1
  clear hb1 K1
  go_wp2_with fail
  refine (KA.out _ B1.out).mono ?_
  rintro r w2 ⟨va, rfl, ta, hb2⟩
  have TA := hid ta.v
  have B2 := hid (below_tr B1.out hb2)
  clear ta hb2 B1 KA
  go_wp2_with fail
  refine (KD.out _ B2.out).mono ?_
  rintro r w3 ⟨vd, vt, rfl, td, ot, hb3⟩
  have TD := hid td.v
  have TA := hid (TA.out.below hb3)
  have OT := hid ot
  have B3 := hid (below_tr B2.out hb3)
  clear td ot hb3 B2 KD
  go_wp2_with fail
  refine (KW.out _ B3.out).mono ?_
  rintro r w4 ⟨vw, rfl, ow, hb4⟩
  have TA := hid (TA.out.below hb4)
  have TD := hid (TD.out.below hb4)
  have OT := hid (OT.out.below hb4)
  have OW := hid ow
  have B4 := hid (below_tr B3.out hb4)
  clear ow hb4 B3 KW
  go_wp2_with fail
  refine (KC.out _ B4.out).mono ?_
  rintro r w5 ⟨rfl, hb5⟩
  have TA := hid (TA.out.below hb5)
  have TD := hid (TD.out.below hb5)
  have OT := hid (OT.out.below hb5)
  have OW := hid (OW.out.below hb5)
  have B5 := hid (below_tr B4.out hb5)
  clear hb5 B4 KC
  by_cases hy : Lk.check T = 0
  rotate_left
  · have e1 : askV T t i m = [] := by unfold askV askE; rw [if_pos hy, if_neg hy]
    have e2 : askO T t i m = false := by unfold askO askE; rw [if_pos hy, if_neg hy]
    have e3 : askE T t i m = Lk.check T := by unfold askE; rw [if_pos hy]
    have e4 : dropE T t = Lk.check T := by unfold dropE; rw [if_pos hy]
    have e5 : dropV T t = [] := by unfold dropV; rw [e4, if_neg hy]
    have e6 : dropG T t = [] := by unfold dropG; rw [e4, if_neg hy]
    have e7 : waitsOf T = [] := by unfold waitsOf; rw [if_neg hy]
    rw [e1] at TA
    rw [e5] at TD
    rw [e6] at OT
    rw [e7] at OW
    rw [e2, e3, e4]
    generalize Lk.check T = y at *
    have q1 : (y != 0) = true := by simpa using hy
    have q2 : (y != y) = false := by simp
    have q3 : (y == y) = true := by simp
    obtain ⟨a1, c1, p1, _⟩ := TA.out
    obtain ⟨a2, c2, p2, _⟩ := TD.out
    obtain ⟨a3, c3, p3, _⟩ := OT.out.at_
    obtain ⟨a4, c4, p4, _⟩ := OW.out.at_
    rw [List.length_nil] at p1 p2 p3 p4
    subst p1; subst p2; subst p3; subst p4
    clear hy e1 e2 e3 e4 e5 e6 e7 TA TD OT OW H
    go_wp2_with fail
    go_ret
    exact ⟨rfl, B5.out⟩
  have HG := hid (Lk.check_zero.1 hy)
  have e7 : waitsOf T = Lk.waits T := by unfold waitsOf; rw [if_pos hy]
  rw [e7] at OW
  have HA : Hid (askE T t i m = if (Lk.tx t && Lk.item i && Lk.mode m) = false then 1 else if Lk.inQ T t then 10 else 0) := by show _ = _; unfold askE; rw [if_neg (by simpa using hy)]
  have HAV : Hid (askV T t i m = if askE T t i m = 0 then Lk.askT T i ⟨t, m⟩ else []) := rfl
  have HAO : Hid (askO T t i m = if askE T t i m = 0 then Lk.askB T i ⟨t, m⟩ else false) := rfl
  have HD : Hid (dropE T t = if Lk.tx t then 0 else 1) := by show _ = _; unfold dropE; rw [if_neg (by simpa using hy)]
  have HDV : Hid (dropV T t = if dropE T t = 0 then Lk.dropT T t else []) := rfl
  have HDG : Hid (dropG T t = if dropE T t = 0 then Lk.dropL T t else []) := rfl
  have KE := hid fun W hW => rwaits_any W a c T (H.out.below hW) HG.out
  have KX := hid fun W hW => rdrop_any W a c T t (H.out.below hW) HG.out
  have KY := hid fun W hW (hm : Lk.mode m = true) => rask_any W a c T t i m (H.out.below hW) HG.out hm
  rw [hy]
  have l20 := HG.out.len
  have q2 : ((0 : Int) != 0) = false := by simp
  obtain ⟨a4, c4, p4, g4, _, l4, m4⟩ := OW.out.at_
  subst p4
  have G4 := hid g4
  obtain ⟨LW, hLW⟩ : ∃ LW, LW = Lk.waits T := ⟨_, rfl⟩
  rw [← hLW] at l4 G4 OW KE ⊢
  clear hLW hy e7 g4
  have lw : LW.length ≤ 9223372036854775807 := by unfold maxLen at m4; omega
  obtain ⟨AE, hAE⟩ : ∃ AE, AE = askE T t i m := ⟨_, rfl⟩
  obtain ⟨AV, hAV⟩ : ∃ AV, AV = askV T t i m := ⟨_, rfl⟩
  obtain ⟨AO, hAO⟩ : ∃ AO, AO = askO T t i m := ⟨_, rfl⟩
  obtain ⟨DE, hDE⟩ : ∃ DE, DE = dropE T t := ⟨_, rfl⟩
  obtain ⟨DV, hDV⟩ : ∃ DV, DV = dropV T t := ⟨_, rfl⟩
  obtain ⟨DG, hDG⟩ : ∃ DG, DG = dropG T t := ⟨_, rfl⟩
  rw [← hAE] at HA HAV HAO ⊢
  rw [← hAV] at HAV TA
  rw [← hAO] at HAO ⊢
  rw [← hDE] at HD HDV HDG ⊢
  rw [← hDV] at HDV TD
  rw [← hDG] at HDG OT
  clear hAE hAV hAO hDE hDV hDG H
  go_wp2_with fail
  refine (KE.out _ B5.out).mono ?_
  rintro r w6 ⟨vx, rfl, ox, hb6⟩
  have TA := hid (TA.out.below hb6)
  have TD := hid (TD.out.below hb6)
  have OT := hid (OT.out.below hb6)
  have G4 := hid (G4.out.below hb6)
  have B6 := hid (below_tr B5.out hb6)
  obtain ⟨a5, c5, rfl, g5, _, l5, m5⟩ := ox.at_
  have KQ := equalE_any w6 a4 a5 c4 c5 LW LW G4.out g5 lw lw
  rw [decide_eq_true rfl] at KQ
  have KQ := hid KQ
  clear ox hb6 B5 KE g5 G4 OW
  go_wp2_with fail
  refine KQ.out.mono ?_
  rintro r w7 ⟨rfl, hb7⟩
  have TA := hid (TA.out.below hb7)
  have TD := hid (TD.out.below hb7)
  have OT := hid (OT.out.below hb7)
  have B7 := hid (below_tr B6.out hb7)
  clear hb7 B6 KQ l4 m4 l5 m5 lw
  obtain ⟨bt, hbt⟩ : ∃ bt, bt = Lk.tx t := ⟨_, rfl⟩
  rw [← hbt] at HA HD
  have HBT := hid hbt
  clear hbt
  go_upto_region 11 with fail
  go_cut [103] from 98 to 103 (fun r wx => r = .bool (!bt) ∧ wx = w7)
  case first =>
    have hb := HBT.out
    unfold Lk.tx at hb
    clear HA HD HAV HAO HDV HDG
    by_cases h1 : t < 0
    · have h2 : bt = false := by rw [hb]; simp; omega
      subst h2
      have h3 : decide (t < 0) = true := by simpa using h1
      go_wp2_with fail
      go_meet
      exact ⟨rfl, rfl⟩
    · have h3 : decide (t < 0) = false := by simpa using h1
      have h4 : decide (t > 11) = !bt := by
        rw [hb]
        by_cases h5 : t > 11
        · rw [decide_eq_true h5, decide_eq_false (p := t < 12) (by omega)]; simp
        · rw [decide_eq_false h5, decide_eq_true (p := t < 12) (by omega), decide_eq_true (p := 0 ≤ t) (by omega)]; rfl
      have h4' : decide (11 < t) = !bt := h4
      clear hb
      generalize (!bt) = nb at *
      cases nb with
      | true =>
        have h6 : 11 < t := by simpa using h4'
        go_wp2_with fail
        go_meet
        exact ⟨rfl, rfl⟩
      | false =>
        have h6 : ¬ 11 < t := by simpa using h4'
        go_wp2_with fail
        go_meet
        exact ⟨rfl, rfl⟩
  case rest =>
    obtain ⟨rfl, rfl⟩ := hcut
    cases bt with
    | false =>
      have e1 : DE = 1 := HD.out
      have e2 : AE = 1 := by rw [HA.out, if_pos (by simp)]
      have e3 : DV = [] := by rw [HDV.out, e1]; rfl
      have e4 : DG = [] := by rw [HDG.out, e1]; rfl
      have e5 : AV = [] := by rw [HAV.out, e2]; rfl
      have e6 : AO = false := by rw [HAO.out, e2]; rfl
      clear HD HA HDV HDG HAV HAO
      subst e1; subst e2; subst e3; subst e4; subst e5; subst e6
      obtain ⟨a1, c1, p1, _⟩ := TA.out
      obtain ⟨a2, c2, p2, _⟩ := TD.out
      obtain ⟨a3, c3, p3, _⟩ := OT.out.at_
      rw [List.length_nil] at p1 p2 p3
      subst p1; subst p2; subst p3
      clear TA TD OT
      go_wp2_with fail
      go_ret
      exact ⟨rfl, B7.out⟩
    | true =>
      have e1 : DE = 0 := HD.out
      have e3 : DV = Lk.dropT T t := by rw [HDV.out, e1, if_pos rfl]
      have e4 : DG = Lk.dropL T t := by rw [HDG.out, e1, if_pos rfl]
      rw [← e3, ← e4] at KX
      clear HD HDV HDG e3 e4
      subst e1
      rw [Bool.true_and] at HA
      go_wp2_with fail
      refine (KX.out _ B7.out).mono ?_
      rintro r w8 ⟨vb, vl, rfl, tb, ol, hb8⟩
      have TA := hid (TA.out.below hb8)
      have B8 := hid (below_tr B7.out hb8)
      obtain ⟨a2, c2, rfl, d2, l2, m2⟩ := TD.out.below hb8
      obtain ⟨a6, c6, rfl, d6, l6, m6⟩ := tb
      obtain ⟨a3, c3, rfl, d3, _, l3, m3⟩ := (OT.out.below hb8).at_
      obtain ⟨a7, c7, rfl, d7, _, l7, m7⟩ := ol.at_
      unfold maxLen at m2 m3
      have K8 := rsame_any w8 a2 a6 c2 c6 DV DV d2 d6 (by omega)
      have K9 := hid fun W (hW : Below w8.heap.size w8 W) => eqInts_any W a3 a7 c3 c7 DG DG (d3.below hW) (d7.below hW) (by omega)
      rw [decide_eq_true rfl] at K8
      rw [decide_eq_true rfl] at K9
      have K8 := hid K8
      clear TD OT ol hb8 B7 KX d2 d3 d6 d7 l2 m2 l3 m3 l6 m6 l7 m7
      go_wp2_with fail
      refine K8.out.mono ?_
      rintro r w9 ⟨rfl, hb9⟩
      have TA := hid (TA.out.below hb9)
      have B9 := hid (below_tr B8.out hb9)
      have H9 := hid hb9
      clear hb9 B8 K8
      go_wp2_with fail
      refine (K9.out _ H9.out).mono ?_
      rintro r wa ⟨rfl, hba⟩
      have TA := hid (TA.out.below hba)
      have BA := hid (below_tr B9.out hba)
      clear hba B9 H9 K9
      obtain ⟨bi, hbi⟩ : ∃ bi, bi = (Lk.item i && Lk.mode m) := ⟨_, rfl⟩
      rw [← hbi] at HA
      have HBI := hid hbi
      clear hbi
      go_upto_region 16 with fail
      go_cut [162] from 149 to 162 (fun r wx => r = .bool (!bi) ∧ wx = wa)
      case first =>
        have hb := HBI.out
        unfold Lk.item Lk.mode at hb
        clear HA HAV HAO
        by_cases h1 : i < 0
        · have h2 : bi = false := by rw [hb]; simp; omega
          clear hb
          subst h2
          have h3 : decide (i < 0) = true := by simpa using h1
          go_wp2_with fail
          go_meet
          exact ⟨rfl, rfl⟩
        · have h3 : decide (i < 0) = false := by simpa using h1
          by_cases h4 : 19 < i
          · have h2 : bi = false := by rw [hb]; simp; omega
            clear hb
            subst h2
            have h5 : decide (19 < i) = true := by simpa using h4
            have h5' : decide (i > 19) = true := h5
            go_wp2_with fail
            go_meet
            exact ⟨rfl, rfl⟩
          · have h5 : decide (19 < i) = false := by simpa using h4
            have h5' : decide (i > 19) = false := h5
            by_cases h6 : m < 1
            · have h2 : bi = false := by rw [hb]; simp; omega
              clear hb
              subst h2
              have h7 : decide (m < 1) = true := by simpa using h6
              go_wp2_with fail
              go_meet
              exact ⟨rfl, rfl⟩
            · have h7 : decide (m < 1) = false := by simpa using h6
              by_cases h8 : 5 < m
              · have h2 : bi = false := by rw [hb]; simp; omega
                clear hb
                subst h2
                have h9 : decide (5 < m) = true := by simpa using h8
                have h9' : decide (m > 5) = true := h9
                go_wp2_with fail
                go_meet
                exact ⟨rfl, rfl⟩
              · have h2 : bi = true := by rw [hb]; simp only [Bool.and_eq_true, decide_eq_true_eq]; omega
                clear hb
                subst h2
                have h9 : decide (5 < m) = false := by simpa using h8
                have h9' : decide (m > 5) = false := h9
                go_wp2_with fail
                go_meet
                exact ⟨rfl, rfl⟩
      case rest =>
        obtain ⟨rfl, rfl⟩ := hcut
        cases bi with
        | false =>
          have e2 : AE = 1 := by rw [HA.out, if_pos rfl]
          have e5 : AV = [] := by rw [HAV.out, e2]; rfl
          have e6 : AO = false := by rw [HAO.out, e2]; rfl
          clear HA HAV HAO
          subst e2; subst e5; subst e6
          obtain ⟨a1, c1, p1, _⟩ := TA.out
          rw [List.length_nil] at p1
          subst p1
          clear TA
          go_wp2_with fail
          go_ret
          exact ⟨rfl, BA.out⟩
        | true =>
          have hm : Lk.mode m = true := by have := HBI.out; simp at this; exact this.2
          have e2 : raskE T t = AE := by rw [HA.out, if_neg (by simp)]; rfl
          have e5 : raskV T t i m = AV := by
            rw [HAV.out, ← e2]
            unfold raskV raskE
            cases Lk.inQ T t <;> rfl
          have e6 : raskO T t i m = AO := by
            rw [HAO.out, ← e2]
            unfold raskO raskE
            cases Lk.inQ T t <;> rfl
          rw [e2, e5, e6] at KY
          have q3 : (AE == AE) = true := by simp
          have q4 : (AO == AO) = true := by simp
          clear HA HAV HAO e2 e5 e6
          go_wp2_with fail
          refine (KY.out _ BA.out hm).mono ?_
          rintro r wb ⟨vy, rfl, hty, hbb⟩
          obtain ⟨a1, c1, rfl, d1, l1, m1⟩ := TA.out.below hbb
          obtain ⟨a8, c8, rfl, d8, _, _⟩ := hty
          unfold maxLen at m1
          have K8 := rsame_any wb a1 a8 c1 c8 AV AV d1 d8 (by omega)
          rw [decide_eq_true rfl] at K8
          have K8 := hid K8
          have BB := hid (below_tr BA.out hbb)
          clear TA KY d1 d8 l1 m1 hbb BA
          go_wp2_with fail
          refine K8.out.mono ?_
          rintro r wc ⟨rfl, hbc⟩
          have BC := below_tr BB.out hbc
          clear hbc K8 BB
          go_wp2_with fail
          go_ret
          exact ⟨rfl, BC⟩
end Go.Proofs.Ytjoaedkgjnchoac.PLock
