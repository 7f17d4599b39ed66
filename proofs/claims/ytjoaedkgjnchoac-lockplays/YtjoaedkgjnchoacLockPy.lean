/- quirlaw.LockPlays, walked: whatever is asked for and dropped, one behind another: it returns true, and nothing that was there has turned. Conditions: the operations lie where their slice says; a length that an int holds. -/
import Derived.Test.YtjoaedkgjnchoacLockRDp
import Derived.Test.YtjoaedkgjnchoacLockRSm
import Derived.Test.YtjoaedkgjnchoacLockAk
import Derived.Test.YtjoaedkgjnchoacLockEqI
import Derived.Test.YtjoaedkgjnchoacLockStp
import Derived.Test.YtjoaedkgjnchoacLockRest
import Derived.Test.YtjoaedkgjnchoacRunMem
namespace Go.Proofs.Ytjoaedkgjnchoac.PLock
open Go Go.RowKit PPool
set_option maxRecDepth 100000

theorem TbIn.tv {w : World} {base : Nat} {v : Value} {T : List Lk.It} (h : TbIn w base v T) : TbV w v T := h.at_

set_option maxHeartbeats 8000000 in
theorem plays_walk (w : World) (a : Option Addr) (c : Nat) (X : List PRun.Rn.Op) (h : PRun.OpAt w a X) (hl : X.length ≤ 9223372036854775807) (_hcap : X.length ≤ c) :
    Calls Try.prog 5 #[.slice a X.length c] w fun e w' => e = .returned (.bool true) ∧ Below w.heap.size w w' := by
  have H := hid h
  have KA := hid fun W a c T t i m h hl => ask2_any W a c T t i m h hl
  have KD := hid fun W a c T t h hl => drop_any W a c T t h hl
  have KC := hid fun W a c T h hl => check_any W a c T h hl
  have KR := hid fun W n => rest_any n 5 W (by decide) (by decide)
  have KX := hid fun W a c T t h hg => rdrop_any W a c T t h hg
  have KY := hid fun W a c T t i m h hg hm => rask_any W a c T t i m h hg hm
  have KS := hid fun W a1 a2 c1 c2 l1 l2 h1 h2 hl => rsame_any W a1 a2 c1 c2 l1 l2 h1 h2 hl
  have KI := hid fun W a1 a2 c1 c2 l1 l2 h1 h2 hl => eqInts_any W a1 a2 c1 c2 l1 l2 h1 h2 hl
  clear h
  go_enter Try.func5, Try.ntmps5
  go_wp2_with fail
  go_loopw [3, 4, 21] (fun tv mv j wr => ∃ (k : Nat) (V M : Value) (T : List Lk.It), k ≤ X.length ∧ V = tv ∧ M = mv ∧ j = .int .i64 (k : Int) ∧ Hid (TbV wr V T) ∧ Hid (TbV wr M T) ∧ Hid (Lk.Good T) ∧ Hid (Below w.heap.size w wr)) (fun _ _ j _ => X.length - (intOf j).toNat)
  case atStart => exact ⟨0, _, _, [], Nat.zero_le _, rfl, rfl, rfl, TbV.nil _, TbV.nil _, Lk.Good.nil, Below.refl _ _⟩
  case round =>
    obtain ⟨k, V, M, T, hk, rfl, rfl, rfl, hT, hM, hG, hb⟩ := hrel
    obtain ⟨av, cv, rfl, hAt, _⟩ := hT.out
    obtain ⟨am, cm, rfl, hAm, _⟩ := hM.out
    have l20 := hG.out.len
    have HAT := hid hAt
    have HAM := hid hAm
    clear hAt hAm
    by_cases hlt : k < X.length
    · obtain ⟨x, hx⟩ : ∃ x, X[k]? = some x := ⟨_, List.getElem?_eq_getElem hlt⟩
      obtain ⟨b, o, rfl, d0, d1, d2⟩ := (H.out.below hb.out) k x hx
      have k0 : (0 : Int) ≤ (k : Int) := by omega
      have k1 : (k : Int) < (X.length : Int) := by omega
      obtain ⟨xt, xk, xi⟩ := x
      simp only at d0 d1 d2
      obtain ⟨W0, hW0⟩ : ∃ W0, W0 = wr.alloc (.cells #[.int .i64 xt, .int .i64 xk, .int .i64 xi] 51) := ⟨_, rfl⟩
      obtain ⟨B, hB⟩ : ∃ B, B = wr.heap.size := ⟨_, rfl⟩
      have SB : Hid (∀ W, Below W0.heap.size W0 W → W.cell? ⟨B, 0, none⟩ = some (.int .i64 xt) ∧ W.cell? ⟨B, 1, none⟩ = some (.int .i64 xk) ∧ W.cell? ⟨B, 2, none⟩ = some (.int .i64 xi)) := fun W hW => by rw [hW0] at hW; rw [hB]; exact ibox hW
      have B0 : Hid (Below wr.heap.size wr W0) := by show Below _ _ _; rw [hW0]; exact bx _ _
      have C0 := hid (below_tr hb.out B0.out)
      have HW0 := hid hW0
      have HB := hid hB
      have TV := hid (hT.out.below B0.out)
      have TM := hid (hM.out.below B0.out)
      have HAT := hid (HAT.out.below B0.out)
      have HAM := hid (HAM.out.below B0.out)
      have hy : Lk.check T = 0 := Lk.check_zero.2 hG.out
      have HD : Hid (dropE T xt = if Lk.tx xt then 0 else 1) := by show _ = _; unfold dropE; rw [if_neg (by simpa using hy)]
      have HDV : Hid (dropV T xt = if dropE T xt = 0 then Lk.dropT T xt else []) := rfl
      have HDG : Hid (dropG T xt = if dropE T xt = 0 then Lk.dropL T xt else []) := rfl
      have KD1 := hid (KD.out W0 av cv T xt HAT.out (by omega))
      have KX1 := hid fun W (hW : Below W0.heap.size W0 W) => KX.out W am cm T xt (HAM.out.below hW) hG.out
      have HGD := hid (Lk.dropT_good hG.out xt)
      clear hx hW0 hB hT hM hb
      have HBT : Hid (Lk.tx xt = (decide (0 ≤ xt) && decide (xt < 12))) := rfl
      obtain ⟨bt, hbt⟩ : ∃ bt, bt = Lk.tx xt := ⟨_, rfl⟩
      rw [← hbt] at HD HBT
      by_cases hk4 : xk = 4
      · have hk4' : (xk == 4) = true := by simpa using hk4
        clear KA KC KR KY hbt
        obtain ⟨DE, hDE⟩ : ∃ DE, DE = dropE T xt := ⟨_, rfl⟩
        obtain ⟨DV, hDV⟩ : ∃ DV, DV = dropV T xt := ⟨_, rfl⟩
        obtain ⟨DG, hDG⟩ : ∃ DG, DG = dropG T xt := ⟨_, rfl⟩
        rw [← hDE] at HD HDV HDG KD1
        rw [← hDV] at HDV KD1
        rw [← hDG] at HDG KD1
        clear hDE hDV hDG
        obtain ⟨y0, y1, y2⟩ := SB.out W0 (Below.refl _ _)
        subst hk4
        go_upto_region 5 with fail
        rw [← HW0.out, ← HB.out]
        clear HW0 HB d0 d1 d2
        go_wp2_with fail
        refine KD1.out.mono ?_
        rintro r w3 ⟨V3, vt, rfl, t3, ot, b3⟩
        have T3 := hid t3.tv
        have O3 := hid ot
        have B3 := hid b3
        obtain ⟨y0, y1, y2⟩ := SB.out w3 b3
        clear t3 ot b3 KD1
        go_upto_region 7 with fail
        go_cut [43] from 36 to 43 (fun r wx => r = .bool (!bt) ∧ wx = w3)
        case first =>
          have hb := HBT.out
          clear HD HDV HDG
          by_cases h1 : xt < 0
          · have h2 : bt = false := by rw [hb]; simp; omega
            clear hb
            subst h2
            have h3 : decide (xt < 0) = true := by simpa using h1
            go_wp2_with fail
            go_meet
            exact ⟨rfl, rfl⟩
          · have h3 : decide (xt < 0) = false := by simpa using h1
            by_cases h4 : 11 < xt
            · have h2 : bt = false := by rw [hb]; simp; omega
              clear hb
              subst h2
              have h5 : decide (11 < xt) = true := by simpa using h4
              have h5' : decide (xt > 11) = true := h5
              go_wp2_with fail
              go_meet
              exact ⟨rfl, rfl⟩
            · have h2 : bt = true := by rw [hb]; simp only [Bool.and_eq_true, decide_eq_true_eq]; omega
              clear hb
              subst h2
              have h5 : decide (11 < xt) = false := by simpa using h4
              have h5' : decide (xt > 11) = false := h5
              go_wp2_with fail
              go_meet
              exact ⟨rfl, rfl⟩
        case rest =>
          obtain ⟨rfl, rfl⟩ := hcut
          cases bt with
          | false =>
            have e1 : DE = 1 := HD.out
            clear HD HDV HDG KX1
            subst e1
            have TV := hid (TV.out.below B3.out)
            have TM := hid (TM.out.below B3.out)
            have C3 := hid (below_tr C0.out B3.out)
            clear T3 O3
            go_wp2_with fail
            go_roundw
            case rel => exact ⟨k + 1, _, _, T, by omega, rfl, rfl, by go_num, TV, TM, hG, C3⟩
            case measure => simp [intOf]; omega
          | true =>
            have e1 : DE = 0 := HD.out
            have e3 : DV = Lk.dropT T xt := by rw [HDV.out, e1, if_pos rfl]
            have e4 : DG = Lk.dropL T xt := by rw [HDG.out, e1, if_pos rfl]
            have KX2 := KX1.out _ B3.out
            rw [← e3, ← e4] at KX2
            have KX2 := hid KX2
            have HGD : Hid (Lk.Good DV) := by show Lk.Good _; rw [e3]; exact HGD.out
            clear HD HDV HDG e3 e4 KX1
            subst e1
            have dl : DV.length ≤ 20 := HGD.out.len
            go_wp2_with fail
            refine KX2.out.mono ?_
            rintro r w4 ⟨vb, vl, rfl, tb, ol, b4⟩
            have T4 := hid (T3.out.below b4)
            have M4 := hid tb
            obtain ⟨a2, c2, e2, p2, _⟩ := T4.out
            obtain ⟨a6, c6, e6, p6, _⟩ := M4.out
            obtain ⟨a3, c3, rfl, p3, _, l3, m3⟩ := (O3.out.below b4).at_
            obtain ⟨a7, c7, rfl, p7, _, l7, m7⟩ := ol.at_
            unfold maxLen at m3
            have K8 := KS.out w4 a2 a6 c2 c6 DV DV p2 p6 (by omega)
            rw [decide_eq_true rfl] at K8
            have K8 := hid K8
            have K9 := hid fun W (hW : Below w4.heap.size w4 W) => KI.out W a3 a7 c3 c7 DG DG (p3.below hW) (p7.below hW) (by omega)
            rw [decide_eq_true rfl] at K9
            have B4 := hid (below_tr C0.out (below_tr B3.out b4))
            clear T3 O3 tb ol b4 p2 p3 p6 p7 l3 m3 l7 m7 KX2 TV TM
            subst e2; subst e6
            go_wp2_with fail
            refine K8.out.mono ?_
            rintro r w5 ⟨rfl, b5⟩
            have T5 := hid (T4.out.below b5)
            have M5 := hid (M4.out.below b5)
            have B5 := hid (below_tr B4.out b5)
            have K9 := hid (K9.out _ b5)
            clear T4 M4 B4 b5 K8
            go_wp2_with fail
            refine K9.out.mono ?_
            rintro r w6 ⟨rfl, b6⟩
            have T6 := hid (T5.out.below b6)
            have M6 := hid (M5.out.below b6)
            have B6 := hid (below_tr B5.out b6)
            clear T5 M5 B5 b6 K9
            go_wp2_with fail
            go_roundw
            case rel => exact ⟨k + 1, _, _, DV, by omega, rfl, rfl, by go_num, T6, M6, HGD, B6⟩
            case measure => simp [intOf]; omega
      · have hk4' : (xk == 4) = false := by simpa using hk4
        clear KD KX KI KD1 KX1 HD HDV HDG HGD
        have r0 : 0 ≤ xk % 5 := by omega
        have r1 : xk % 5 < 5 := by omega
        have hw5 : IntKind.i64.wrap (xk % 5 + 1) = xk % 5 + 1 := IntWalk.i64_in _ ⟨by omega, by omega⟩
        have hmd : Lk.mode (xk % 5 + 1) = true := Lk.mode_iff.2 ⟨by omega, by omega⟩
        have KR1 := hid fun W => KR.out W xk
        obtain ⟨m, hm⟩ : ∃ m, m = xk % 5 := ⟨_, rfl⟩
        rw [← hm] at KR1 hw5 hmd
        clear hm r0 r1
        have KA1 := hid fun W (hW : Below W0.heap.size W0 W) => KA.out W av cv T xt xi (m + 1) (HAT.out.below hW) (by omega)
        have KY1 := hid fun W (hW : Below W0.heap.size W0 W) => KY.out W am cm T xt xi (m + 1) (HAM.out.below hW) hG.out hmd
        obtain ⟨bi, hbi⟩ : ∃ bi, bi = (bt && Lk.item xi) := ⟨_, rfl⟩
        have HA : Hid (askE T xt xi (m + 1) = if bi = false then 1 else if Lk.inQ T xt then 10 else 0) := by
          show _ = _
          unfold askE
          rw [if_neg (by simpa using hy), hmd, Bool.and_true, ← hbt, ← hbi]
        have HBI : Hid (bi = ((decide (0 ≤ xt) && decide (xt < 12)) && (decide (0 ≤ xi) && decide (xi < 20)))) := by show _ = _; rw [hbi, HBT.out]; rfl
        have HAV : Hid (askV T xt xi (m + 1) = if askE T xt xi (m + 1) = 0 then Lk.askT T xi ⟨xt, m + 1⟩ else []) := rfl
        have HAO : Hid (askO T xt xi (m + 1) = if askE T xt xi (m + 1) = 0 then Lk.askB T xi ⟨xt, m + 1⟩ else false) := rfl
        have HAG := hid fun h => askV_good (T := T) (t := xt) (i := xi) (m := m + 1) h
        obtain ⟨AE, hAE⟩ : ∃ AE, AE = askE T xt xi (m + 1) := ⟨_, rfl⟩
        obtain ⟨AV, hAV⟩ : ∃ AV, AV = askV T xt xi (m + 1) := ⟨_, rfl⟩
        obtain ⟨AO, hAO⟩ : ∃ AO, AO = askO T xt xi (m + 1) := ⟨_, rfl⟩
        rw [← hAE] at HA HAV HAO HAG KA1
        rw [← hAV] at HAV HAG KA1
        rw [← hAO] at HAO KA1
        clear hAE hAV hAO hbi hbt HBT KA KY KC KR
        obtain ⟨y0, y1, y2⟩ := SB.out W0 (Below.refl _ _)
        go_upto_region 5 with fail
        rw [← HW0.out, ← HB.out]
        clear HW0 HB d0 d1 d2
        go_wp2_with fail
        refine (KR1.out _).mono ?_
        rintro r w2 ⟨rfl, hw2⟩
        obtain rfl := hw2.symm
        go_wp2_with fail
        refine (KA1.out _ (Below.refl _ _)).mono ?_
        rintro r w3 ⟨V3, rfl, t3, b3⟩
        have T3 := hid t3.tv
        have B3 := hid b3
        obtain ⟨y0, y1, y2⟩ := SB.out w3 b3
        clear t3 b3 KA1 KR1 hw2
        go_upto_region 16 with fail
        go_cut [101] from 84 to 101 (fun r wx => r = .bool (!bi) ∧ wx = w3)
        case first =>
          have hb := HBI.out
          clear HA HAV HAO HAG
          by_cases h1 : xt < 0
          · have h2 : bi = false := by rw [hb, decide_eq_false (p := 0 ≤ xt) (by omega)]; rfl
            clear hb
            subst h2
            have h3 : decide (xt < 0) = true := by simpa using h1
            go_wp2_with fail
            go_meet
            exact ⟨rfl, rfl⟩
          · have h3 : decide (xt < 0) = false := by simpa using h1
            by_cases h4 : 11 < xt
            · have h2 : bi = false := by rw [hb, decide_eq_false (p := xt < 12) (by omega), Bool.and_false]; rfl
              clear hb
              subst h2
              have h5 : decide (11 < xt) = true := by simpa using h4
              have h5' : decide (xt > 11) = true := h5
              go_wp2_with fail
              go_meet
              exact ⟨rfl, rfl⟩
            · have h5 : decide (11 < xt) = false := by simpa using h4
              have h5' : decide (xt > 11) = false := h5
              by_cases h6 : xi < 0
              · have h2 : bi = false := by rw [hb, decide_eq_false (p := 0 ≤ xi) (by omega), Bool.false_and, Bool.and_false]
                clear hb
                subst h2
                have h7 : decide (xi < 0) = true := by simpa using h6
                go_wp2_with fail
                go_meet
                exact ⟨rfl, rfl⟩
              · have h7 : decide (xi < 0) = false := by simpa using h6
                by_cases h8 : 19 < xi
                · have h2 : bi = false := by rw [hb, decide_eq_false (p := xi < 20) (by omega), Bool.and_false, Bool.and_false]
                  clear hb
                  subst h2
                  have h9 : decide (19 < xi) = true := by simpa using h8
                  have h9' : decide (xi > 19) = true := h9
                  go_wp2_with fail
                  go_meet
                  exact ⟨rfl, rfl⟩
                · have h2 : bi = true := by
                    rw [hb, decide_eq_true (p := 0 ≤ xt) (by omega), decide_eq_true (p := xt < 12) (by omega), decide_eq_true (p := 0 ≤ xi) (by omega), decide_eq_true (p := xi < 20) (by omega)]
                    rfl
                  clear hb
                  subst h2
                  have h9 : decide (19 < xi) = false := by simpa using h8
                  have h9' : decide (xi > 19) = false := h9
                  go_wp2_with fail
                  go_meet
                  exact ⟨rfl, rfl⟩
        case rest =>
          obtain ⟨rfl, rfl⟩ := hcut
          cases bi with
          | false =>
            have e1 : AE = 1 := by rw [HA.out, if_pos rfl]
            clear HA HAV HAO HAG KY1
            subst e1
            have TV := hid (TV.out.below B3.out)
            have TM := hid (TM.out.below B3.out)
            have C3 := hid (below_tr C0.out B3.out)
            clear T3
            go_wp2_with fail
            go_roundw
            case rel => exact ⟨k + 1, _, _, T, by omega, rfl, rfl, by go_num, TV, TM, hG, C3⟩
            case measure => simp [intOf]; omega
          | true =>
            have e2 : raskE T xt = AE := by rw [HA.out, if_neg (by simp)]; rfl
            have e5 : raskV T xt xi (m + 1) = AV := by
              rw [HAV.out, ← e2]
              unfold raskV raskE
              cases Lk.inQ T xt <;> rfl
            have e6 : raskO T xt xi (m + 1) = AO := by
              rw [HAO.out, ← e2]
              unfold raskO raskE
              cases Lk.inQ T xt <;> rfl
            have KY2 := KY1.out _ B3.out
            rw [e2, e5, e6] at KY2
            have KY2 := hid KY2
            have q3 : (AE != AE) = false := by simp
            have q4 : (AO != AO) = false := by simp
            clear HA HAV HAO e2 e5 e6 KY1
            go_wp2_with fail
            refine KY2.out.mono ?_
            rintro r w4 ⟨vy, rfl, ty, b4⟩
            have T4 := hid (T3.out.below b4)
            have M4 := hid ty
            obtain ⟨a1, c1, e1, p1, l1, m1⟩ := T4.out
            obtain ⟨a8, c8, e8, p8, _, _⟩ := M4.out
            unfold maxLen at m1
            have K8 := KS.out w4 a1 a8 c1 c8 AV AV p1 p8 (by omega)
            rw [decide_eq_true rfl] at K8
            have K8 := hid K8
            have B4 := hid (below_tr B3.out b4)
            clear T3 ty b4 p1 p8 l1 m1 KY2
            subst e1; subst e8
            go_wp2_with fail
            refine K8.out.mono ?_
            rintro r w5 ⟨rfl, b5⟩
            have T5 := hid (T4.out.below b5)
            have M5 := hid (M4.out.below b5)
            have B5 := hid (below_tr B4.out b5)
            have C5 := hid (below_tr C0.out B5.out)
            have TV := hid (TV.out.below B5.out)
            have TM := hid (TM.out.below B5.out)
            clear T4 M4 B4 b5 K8
            by_cases hz : AE = 0
            · have hz' : (AE == 0) = true := by simpa using hz
              have HG5 := hid (HAG.out hz)
              clear HAG
              subst hz
              go_wp2_with fail
              go_roundw
              case rel => exact ⟨k + 1, _, _, AV, by omega, rfl, rfl, by go_num, T5, M5, HG5, C5⟩
              case measure => simp [intOf]; omega
            · have hz' : (AE == 0) = false := by simpa using hz
              clear HAG T5 M5
              go_wp2_with fail
              go_roundw
              case rel => exact ⟨k + 1, _, _, T, by omega, rfl, rfl, by go_num, TV, TM, hG, C5⟩
              case measure => simp [intOf]; omega
    · obtain rfl : k = X.length := by omega
      have j3 : decide ((X.length : Int) < (X.length : Int)) = false := by simp
      have K4 := hid (KC.out wr av cv T HAT.out (by omega))
      rw [Lk.check_zero.2 hG.out] at K4
      clear hT hM
      go_wp2_with fail
      refine K4.out.mono ?_
      rintro r w5 ⟨rfl, b5⟩
      have B5 := below_tr hb.out b5
      go_wp2_with fail
      go_ret
      exact ⟨rfl, B5⟩
end Go.Proofs.Ytjoaedkgjnchoac.PLock
