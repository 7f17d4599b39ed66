/- The document's own log: recordAt, walked. -/
import Derived.Test.YthfpinjegfgeiaaWalRefPut
namespace Go.Proofs.Ythfpinjegfgeiaa
open Go Go.RowKit
set_option maxRecDepth 100000

def ratV : Option Wl.Rec → Value
  | none => .tuple #[.int .i64 0, .string ⟨#[]⟩, .int .i64 0]
  | some r => .tuple #[.int .i64 r.epoch, .string (ba r.text), .int .i64 (r.size : Int)]

set_option maxHeartbeats 2000000 in
theorem recordAt_none (g o c : Nat) (n : Int) (w : World) :
    Calls Try.prog 65 #[.slice (some ⟨g, o, none⟩) 0 c, .int .i64 n] w fun r w' => r = .returned (ratV none) ∧ Below w.heap.size w w' := by
  go_enter Try.func65, Try.ntmps65
  go_wp2_with fail
  go_ret3
  exact ⟨rfl, Below.refl _ _⟩

theorem drop_zero_cons (s : ByteArray) (h : 0 < s.size) : s.data.toList = s[0] :: s.data.toList.drop 1 := by
  have := PCode.drop_at s 0 h
  rw [List.drop_zero] at this
  exact this

set_option maxHeartbeats 1500000 in
theorem recordAt_cons (g o c : Nat) (n : Int) (w : World) (s : ByteArray) (l : List ByteArray) (h : TxAt w g o c (s :: l)) (h64 : ∀ x ∈ s :: l, x.size = 64) (hl : (s :: l).length ≤ 256) (hn : Wl.I64 n) :
    Calls Try.prog 65 #[.slice (some ⟨g, o, none⟩) (s :: l).length c, .int .i64 n] w fun r w' => r = .returned (ratV (Wl.getRec (lists (s :: l)) n)) ∧ Below w.heap.size w w' := by
  have HC : Hid (∀ W : World, Below w.heap.size w W → ∀ (j : Nat) (x : ByteArray), (s :: l)[j]? = some x → W.cell? ⟨g, o + j, none⟩ = some (.string x)) := fun W hW j x hx => (h.keep (hW.block g h.lt)).cell j x hx
  have hc0 := HC.out w (Below.refl _ _) 0 s rfl
  rw [Nat.add_zero] at hc0
  have hs : s.size = 64 := h64 s (by simp)
  have HR : Wl.getRec (lists (s :: l)) n = match Wl.getHd s.data.toList with | none => none | some (e, n', k) => if n' = n then Wl.getRec2 e n (s.data.toList.drop k) (lists l) else none := rfl
  have L1 : (0 : Int) < ((s :: l).length : Int) := by simp
  have L0 : (((s :: l).length : Int) == 0) = false := by simp; omega
  have L2 : (s :: l).length ≠ 0 := by simp
  have H64 := hid h64
  have HL : Hid (lists (s :: l) = s.data.toList :: lists l) := rfl
  have HLl : Hid ((lists (s :: l)).length = (s :: l).length) := by show _ = _; simp [lists]
  have HLx : Hid (∀ (j : Nat) (x : ByteArray), (s :: l)[j]? = some x → (lists (s :: l))[j]? = some x.data.toList) := fun j x hx => by unfold lists; rw [List.getElem?_map, hx]; rfl
  clear h h64
  generalize hSL : s :: l = SL at *
  generalize hLS : lists SL = LS at *
  clear hSL hLS
  generalize Wl.getRec LS n = R at *
  have hp0 : 0 < s.size := by omega
  have hhd : s.data.toList.head? = some s[0] := by
    have e := drop_zero_cons s hp0
    rw [e]
    rfl
  by_cases h1 : s[0].toNat = 1
  · have hh1 : s.data.toList.head? = some 1 := by rw [hhd]; congr 1; exact UInt8.toNat_inj.1 (by rw [h1]; rfl)
    have h1' : ((s[0].toNat : Int) != 1) = false := by simp; omega
    have HG := Wl.getHd.eq_1 s.data.toList
    rw [if_pos hh1] at HG
    have HHd : ∀ e n' k, Wl.getHd s.data.toList = some (e, n', k) → Wl.I64 e ∧ 3 ≤ k ∧ k ≤ 21 := fun e n' k hh => by
      obtain ⟨_, a2, a3, _, a5⟩ := Wl.getHd_some hh
      have := Wl.head_len 1 e n' a2 a3
      exact ⟨a2, by omega, by omega⟩
    have hp1 : (0 : Int) < (s.size : Int) := by omega
    have e1 := fun W => PFold.cut_from s 1 (by omega) (by omega) W
    have H2 := fun W => PCode.refGetInt_any (s.extract 1 s.size) W (by rw [ByteArray.size_extract, hs]; unfold maxLen; omega)
    rw [show (1 : Int).toNat = 1 from rfl] at e1
    rw [from_list] at H2
    have b1 := getI_small (s.data.toList.drop 1)
    obtain ⟨e, t, c', hI⟩ : ∃ e t c, PCode.Nb.getI (s.data.toList.drop 1) = (e, t, c) := ⟨_, _, _, rfl⟩
    rw [hI] at HG H2 b1
    simp only at HG H2 b1
    have e2 := fun W => PFold.cut_from s (1 + (t : Int)) (by omega) (by omega) W
    have H3 := fun W => PCode.refGetInt_any (s.extract (1 + t) s.size) W (by rw [ByteArray.size_extract, hs]; unfold maxLen; omega)
    rw [show (1 + (t : Int)).toNat = 1 + t from by omega] at e2
    rw [from_list] at H3
    have b2 := getI_small (s.data.toList.drop (1 + t))
    obtain ⟨n', u, d, hJ⟩ : ∃ n u d, PCode.Nb.getI (s.data.toList.drop (1 + t)) = (n, u, d) := ⟨_, _, _, rfl⟩
    rw [hJ] at HG H3 b2
    simp only at HG H3 b2
    have H2' := hid H2
    have H3' := hid H3
    obtain ⟨b1, b1'⟩ := b1
    obtain ⟨b2, b2'⟩ := b2
    clear hI hJ H2 H3 hh1 hhd
    generalize s.extract 1 s.size = x1 at *
    generalize s.extract (1 + t) s.size = x2 at *
    by_cases hc : c' = 0
    · subst hc
      rw [if_pos rfl] at HG
      by_cases hd : d = 0
      · subst hd
        rw [if_pos rfl] at HG
        obtain ⟨he, hk1, hk2⟩ := HHd e n' (1 + t + u) HG
        rw [HG] at HR
        simp only at HR
        clear HG HHd
        by_cases hnn : n' = n
        · subst hnn
          rw [if_pos rfl] at HR
          have c1 := fun W => PFold.cut_from s (1 + (t : Int) + (u : Int)) (by omega) (by omega) W
          rw [show (1 + (t : Int) + (u : Int)).toNat = 1 + t + u from by omega] at c1
          have hlx : (s.extract (1 + t + u) s.size).data.toList = s.data.toList.drop (1 + t + u) := from_list s _
          have hsx : (s.extract (1 + t + u) s.size).size = 64 - (1 + t + u) := by rw [ByteArray.size_extract, hs]; omega
          rw [← hlx] at HR
          generalize s.extract (1 + t + u) s.size = x at *
          obtain ⟨m, kk, z, hG⟩ : ∃ m t z, PCode.Nb.getN 0 0 x.data.toList = (m, t, z) := ⟨_, _, _, rfl⟩
          have K2 := hid fun W => PCode.refGet_at x W m kk z (by unfold maxLen; omega) hG
          have hb := PCode.Nb.get_bound x.data.toList 0 0 (by omega) (by omega)
          rw [hG] at hb
          simp only at hb
          unfold Wl.getRec2 at HR
          rw [hG] at HR
          simp only at HR
          obtain ⟨hb1, -, hb3, hb4⟩ := hb
          by_cases hz : z = 0
          · subst hz
            have hat := getN_at hG
            by_cases hm : m ≤ 300
            · rw [if_pos ⟨rfl, hm⟩] at HR
              have K3 := fun W => headOf_any 2 e n' W he hn
              have K3' : Hid (∀ W, Calls Try.prog 81 #[.int .u8 2, .int .i64 e, .int .i64 n'] W fun r w' => r = .returned (.string (ba (Wl.headB 2 e n'))) ∧ Below W.heap.size W w') := K3
              have hd2 := Wl.head_len 2 e n' he hn
              have hdl := ba_size (Wl.headB 2 e n')
              have HRq := hid HR
              have RL0 : Hid (RecLoop LS (Wl.headB 2 e n') (kk + m + 4) m kk (Wl.gather (Wl.headB 2 e n') (kk + m + 4) (lists l) x.data.toList 1) x.data.toList 1) := ⟨by rw [HL.out]; rfl, by rw [HL.out]; simp, by rw [size_list]; omega, hat.1⟩
              have HT := hid hat.2.1
              generalize Wl.gather (Wl.headB 2 e n') (kk + m + 4) (lists l) x.data.toList 1 = GG at *
              have hx : x = ba x.data.toList := (ba_back x).symm
              obtain ⟨x0, hx0⟩ : ∃ x0, x0 = x.data.toList := ⟨_, rfl⟩
              rw [← hx0] at hx RL0
              generalize Wl.headB 2 e n' = hd at *
              have hm' : (m : Int) ≤ 300 := by omega
              have ht' : (kk : Int) ≤ 10 := by omega
              subst hx
              clear hlx hsx hG hat HR hx0 K3
              go_enter Try.func65, Try.ntmps65
              go_wp2_with fail
              refine (H2'.out _).mono ?_
              rintro r w1 ⟨rfl, rfl⟩
              go_wp2_with fail
              refine (H3'.out _).mono ?_
              rintro r w1 ⟨rfl, rfl⟩
              go_wp2_with fail
              refine (K2.out _).mono ?_
              rintro r w1 ⟨rfl, rfl⟩
              go_wp2_with fail
              go_loopw [4, 12, 6] (fun eV hvV uV wr => ∃ (hv : List UInt8) (q : Nat), eV = .int .i64 e ∧ hvV = .string (ba hv) ∧ uV = .int .i64 (q : Int) ∧ Hid (Below w1.heap.size w1 wr) ∧ Hid (RecLoop LS hd (kk + m + 4) m kk GG hv q)) (fun _ _ uV _ => 257 - (intOf uV).toNat)
              case atStart => exact ⟨x0, 1, rfl, rfl, rfl, Below.refl _ _, RL0⟩
              case round =>
                clear RL0
                obtain ⟨hv, q, rfl, rfl, rfl, hbw, hq⟩ := hrel
                have hule : q ≤ SL.length := by rw [← HLl.out]; exact hq.out.le
                have hsm := hq.out.small
                have hvs := ba_size hv
                by_cases hlt : kk + m + 4 ≤ hv.length
                · have hGG := hq.out.stop hlt
                  have hlt1 : (kk : Int) + (m : Int) + 4 ≤ (hv.length : Int) := by omega
                  have hlt2 : decide ((hv.length : Int) < (kk : Int) + (m : Int) + 4) = false := by simp; omega
                  have hF := getF_at hv (kk + m) (by omega) hlt
                  have c3 := fun W => PFold.cut_to (ba hv) ((kk : Int) + (m : Int) + 4) (by omega) (by omega) W
                  rw [show ((kk : Int) + (m : Int) + 4).toNat = kk + m + 4 from by omega, ba_take] at c3
                  have KF := fun W => PFold.refGet_any (ba (hv.take (kk + m + 4))) W
                  rw [hF] at KF
                  have hRR := HRq.out
                  rw [hGG, Wl.ends] at hRR
                  by_cases hsum : Wl.sumF (hv.take (kk + m)) = hv.take (kk + m + 4)
                  · rw [if_pos hsum] at hRR KF
                    subst hRR
                    have hts : (ba (hv.take (kk + m))).size = kk + m := by rw [ba_size, List.length_take]; omega
                    have c5 := fun W => PFold.cut_from (ba (hv.take (kk + m))) (kk : Int) (by omega) (by omega) W
                    have ec : (ba (hv.take (kk + m))).extract kk (ba (hv.take (kk + m))).size = ba ((hv.drop kk).take m) := by
                      rw [ba_drop, List.drop_take, Nat.add_sub_cancel_left]
                    rw [Int.toNat_natCast, ec] at c5
                    have hk5 : (kk : Int) ≤ ((ba (hv.take (kk + m))).size : Int) := by omega
                    have KF' := hid KF
                    clear KF hsum hGG hF ec hts
                    generalize ba (hv.take (kk + m + 4)) = a1 at *
                    generalize ba (hv.take (kk + m)) = a2 at *
                    generalize ha3 : ba ((hv.drop kk).take m) = a3 at *
                    have HA3 := hid ha3
                    clear ha3
                    generalize hv' : ba hv = v at *
                    clear hv'
                    go_wp2_with fail
                    refine (KF'.out _).mono ?_
                    rintro r w4 ⟨rfl, hb4⟩
                    have B4 := hid (hbw.out.trans (hb4.mono hbw.out.size))
                    clear hb4
                    go_wp2_with fail
                    go_quiet (fail)
                    go_wp2_with fail
                    go_ret3
                    exact ⟨by simp only [ratV, HA3.out]; rfl, below_drewN B4.out _⟩
                  · rw [if_neg hsum] at hRR KF
                    subst hRR
                    have KF' := hid KF
                    clear KF hsum hGG hF
                    generalize ba (hv.take (kk + m + 4)) = a1 at *
                    generalize hv' : ba hv = v at *
                    clear hv'
                    go_wp2_with fail
                    refine (KF'.out _).mono ?_
                    rintro r w4 ⟨rfl, hb4⟩
                    have B4 := hid (hbw.out.trans (hb4.mono hbw.out.size))
                    clear hb4
                    go_wp2_with fail
                    go_ret3
                    exact ⟨rfl, B4.out⟩
                · have hlt1 : (hv.length : Int) < (kk : Int) + (m : Int) + 4 := by omega
                  have hlt2 : decide ((hv.length : Int) < (kk : Int) + (m : Int) + 4) = true := by simp; omega
                  by_cases hu : q = SL.length
                  · subst hu
                    have hGG : GG = none := by
                      have q' := hq.out
                      rw [← HLl.out] at q'
                      exact q'.over hlt
                    have hRR : R = none := by rw [HRq.out, hGG]; rfl
                    subst hRR
                    go_wp2_with fail
                    refine (K3'.out _).mono ?_
                    rintro r w4 ⟨rfl, hb4⟩
                    have B4 := hid (hbw.out.trans (hb4.mono hbw.out.size))
                    clear hb4
                    go_wp2_with fail
                    go_ret3
                    exact ⟨rfl, B4.out⟩
                  · have hu1 : ((q : Int) == (SL.length : Int)) = false := by simp; omega
                    have hu2 : (q == SL.length) = false := by simp; omega
                    have hu3 : (q : Int) < (SL.length : Int) := by omega
                    have hu0 : (0 : Int) ≤ (q : Int) := by omega
                    obtain ⟨y, hy⟩ : ∃ y, SL[q]? = some y := ⟨_, List.getElem?_eq_getElem (by omega)⟩
                    have HCy := hid fun W hW => HC.out W hW q y hy
                    have hy64 : y.size = 64 := H64.out y (List.mem_of_getElem? hy)
                    have hst := hq.out.step HT.out (HLx.out q y hy) (by rw [size_list]; exact hy64) hlt
                    have c3 := fun W => PFold.cut_from y (hd.length : Int) (by omega) (by omega) W
                    rw [Int.toNat_natCast] at c3
                    have c4 := fun W => PFold.cut_to y (hd.length : Int) (by omega) (by omega) W
                    rw [Int.toNat_natCast] at c4
                    have ey : y.extract hd.length y.size = ba (y.data.toList.drop hd.length) := bytes_eq (by rw [from_list, ba_list])
                    have ey2 : y.extract 0 hd.length = ba (y.data.toList.take hd.length) := bytes_eq (by rw [cut_list, ba_list]; simp)
                    rw [ey] at c3
                    rw [ey2] at c4
                    have hd64 : (hd.length : Int) ≤ (y.size : Int) := by omega
                    by_cases hp : y.data.toList.take hd.length = hd
                    · have hst1 := hid (hst.1 hp)
                      have hpe : ((ba (y.data.toList.take hd.length)).toList == (ba hd).toList) = true := str_same (by rw [hp])
                      have hpe' : ((ba (y.data.toList.take hd.length)).toList != (ba hd).toList) = false := by unfold bne; rw [hpe]; rfl
                      have hcat := hid (ba_app hv (y.data.toList.drop hd.length))
                      have hds : (ba (y.data.toList.drop hd.length)).size ≤ 64 := by rw [ba_size, List.length_drop, size_list]; omega
                      generalize ba (y.data.toList.drop hd.length) = z at *
                      generalize ba (y.data.toList.take hd.length) = z4 at *
                      generalize ba hv = v at *
                      clear hst hp ey ey2 hy
                      go_wp2_with fail
                      refine (K3'.out _).mono ?_
                      rintro r w4 ⟨rfl, hb4⟩
                      have B4 := hid (hbw.out.trans (hb4.mono hbw.out.size))
                      have hyc := HCy.out w4 B4.out
                      clear hb4
                      go_wp2_with fail
                      go_roundw
                      case rel => exact ⟨hv ++ y.data.toList.drop hd.length, q + 1, rfl, by rw [← hcat.out], by go_num, B4, hst1⟩
                      case measure => simp [intOf]; omega
                    · have hGG := hst.2 hp
                      have hRR : R = none := by rw [HRq.out, hGG]; rfl
                      subst hRR
                      have hpe : ((ba (y.data.toList.take hd.length)).toList == (ba hd).toList) = false := str_other (fun h => hp (by have := congrArg (fun b => b.data.toList) h; simpa [ba_list] using this))
                      have hpe' : ((ba (y.data.toList.take hd.length)).toList != (ba hd).toList) = true := by unfold bne; rw [hpe]; rfl
                      generalize ba (y.data.toList.drop hd.length) = z at *
                      generalize ba (y.data.toList.take hd.length) = z4 at *
                      clear hst hp ey ey2 hy
                      go_wp2_with fail
                      refine (K3'.out _).mono ?_
                      rintro r w4 ⟨rfl, hb4⟩
                      have B4 := hid (hbw.out.trans (hb4.mono hbw.out.size))
                      have hyc := HCy.out w4 B4.out
                      clear hb4
                      go_wp2_with fail
                      go_ret3
                      exact ⟨rfl, B4.out⟩
            · rw [if_neg (by omega)] at HR
              obtain rfl : R = none := HR
              have hm' : decide ((300 : Int) < (m : Int)) = true := by simp; omega
              have hm2 : decide (300 < m) = true := by simp; omega
              have hm3 : (300 : Int) < (m : Int) := by omega
              go_enter Try.func65, Try.ntmps65
              go_wp2_with fail
              refine (H2'.out _).mono ?_
              rintro r w1 ⟨rfl, rfl⟩
              go_wp2_with fail
              refine (H3'.out _).mono ?_
              rintro r w1 ⟨rfl, rfl⟩
              go_wp2_with fail
              refine (K2.out _).mono ?_
              rintro r w1 ⟨rfl, rfl⟩
              go_wp2_with fail
              go_ret3
              exact ⟨rfl, Below.refl _ _⟩
          · rw [if_neg (by omega)] at HR
            obtain rfl : R = none := HR
            have hz' : ((z : Int) != 0) = true := by simp; omega
            go_enter Try.func65, Try.ntmps65
            go_wp2_with fail
            refine (H2'.out _).mono ?_
            rintro r w1 ⟨rfl, rfl⟩
            go_wp2_with fail
            refine (H3'.out _).mono ?_
            rintro r w1 ⟨rfl, rfl⟩
            go_wp2_with fail
            refine (K2.out _).mono ?_
            rintro r w1 ⟨rfl, rfl⟩
            go_wp2_with fail
            go_ret3
            exact ⟨rfl, Below.refl _ _⟩
        · rw [if_neg hnn] at HR
          obtain rfl : R = none := HR
          have hnn' : (n' != n) = true := by simpa using hnn
          go_enter Try.func65, Try.ntmps65
          go_wp2_with fail
          refine (H2'.out _).mono ?_
          rintro r w1 ⟨rfl, rfl⟩
          go_wp2_with fail
          refine (H3'.out _).mono ?_
          rintro r w1 ⟨rfl, rfl⟩
          go_wp2_with fail
          go_ret3
          exact ⟨rfl, Below.refl _ _⟩
      · rw [if_neg hd] at HG
        rw [HG] at HR
        obtain rfl : R = none := HR
        have hd' : ((d : Int) != 0) = true := by simp; omega
        clear HG HHd
        go_enter Try.func65, Try.ntmps65
        go_wp2_with fail
        refine (H2'.out _).mono ?_
        rintro r w1 ⟨rfl, rfl⟩
        go_wp2_with fail
        refine (H3'.out _).mono ?_
        rintro r w1 ⟨rfl, rfl⟩
        go_wp2_with fail
        go_ret3
        exact ⟨rfl, Below.refl _ _⟩
    · rw [if_neg hc] at HG
      rw [HG] at HR
      obtain rfl : R = none := HR
      have hc' : ((c' : Int) != 0) = true := by simp; omega
      clear HG HHd
      go_enter Try.func65, Try.ntmps65
      go_wp2_with fail
      refine (H2'.out _).mono ?_
      rintro r w1 ⟨rfl, rfl⟩
      go_wp2_with fail
      refine (H3'.out _).mono ?_
      rintro r w1 ⟨rfl, rfl⟩
      go_wp2_with fail
      go_ret3
      exact ⟨rfl, Below.refl _ _⟩
  · have HG : Wl.getHd s.data.toList = none := by
      unfold Wl.getHd
      rw [if_neg (by rw [hhd]; intro e; exact h1 (by rw [Option.some.inj e]; rfl))]
    rw [HG] at HR
    obtain rfl : R = none := HR
    have h1' : ((s[0].toNat : Int) != 1) = true := by simp; omega
    clear HG hhd
    have hp1 : (0 : Int) < (s.size : Int) := by omega
    go_enter Try.func65, Try.ntmps65
    go_wp2_with fail
    go_ret3
    exact ⟨rfl, Below.refl _ _⟩

end Go.Proofs.Ythfpinjegfgeiaa
