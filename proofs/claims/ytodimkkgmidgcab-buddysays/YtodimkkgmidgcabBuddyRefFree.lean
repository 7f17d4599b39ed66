/- quirref.BuddyFree, walked: of what is right it answers what is free, in a row of its own; nothing else that was there has turned. Conditions: the list is right. -/
import Derived.Test.YtodimkkgmidgcabBuddyRefIs
namespace Go.Proofs.Ytodimkkgmidgcab.PBuddy
open Go Go.RowKit PPool
set_option maxRecDepth 100000

theorem upto_len {T : Nat → Prop} {N p : Nat} {L : List Bd.Bk} (h : Bd.Upto T N p L) : L.length ≤ p := by
  refine Bd.sorted_len (lo := 0) (hi := p) h.sorted fun x hx => ?_
  obtain ⟨a, k, rfl, _, hl⟩ := (h.mem x).1 hx
  show (0 : Int) ≤ (a : Int) ∧ (a : Int) < (p : Int)
  omega
theorem cast1 (o : Nat) : ((o + 1 : Nat) : Int) = (o : Int) + 1 := by omega
theorem rf_k {k l : Nat} (h : k < l) : (0 : Int) ≤ (k : Int) ∧ (k : Int) < (l : Int) := ⟨by omega, by omega⟩
theorem rf_idx {ka p q m : Nat} (g3 : ka + p ≤ q) (q3 : q ≤ 1024) (hm : m < p) : (0 : Int) ≤ (ka : Int) + (m : Int) ∧ (ka : Int) + (m : Int) < (q : Int) ∧ ((ka : Int) + (m : Int)).toNat = ka + m ∧ IntKind.i64.wrap ((ka : Int) + (m : Int)) = (ka : Int) + (m : Int) ∧ (m : Int) < (p : Int) := by
  obtain ⟨i1, i2, i3, i4, _, i6⟩ := inner_num (v := 0) g3 q3 hm (by omega)
  exact ⟨i1, i2, i3, i4, i6⟩
theorem rf_end {p m q : Nat} (h : p + m ≤ q) (hq : q ≤ 1024) : IntKind.i64.wrap ((p : Int) + (m : Int)) = (p : Int) + (m : Int) ∧ (p : Int) + (m : Int) = ((p + m : Nat) : Int) := ⟨IntWalk.i64_in _ ⟨by omega, by omega⟩, by omega⟩
theorem rf_meas {p q m : Nat} (h : p < q) (hm : 0 < m) : q - (intOf (.int .i64 ((p + m : Nat) : Int))).toNat < q - (intOf (.int .i64 (p : Int))).toNat := by simp only [intOf]; omega
theorem rf_room {l p q : Nat} (h : l ≤ p) (h2 : p < q) (hq : q ≤ 1024) : l + 1 ≤ maxLen ∧ (l + 1) * 16 ≤ 140737488355328 := by unfold maxLen; omega
theorem rf_o {o n : Nat} (h : o ≤ n) (hn : n ≤ 10) : (o : Int) ≤ 10 ∧ o + 1 ≤ 11 ∧ o ≤ 10 := by omega
theorem rf_omeas {o n : Nat} (h : o + 1 ≤ n) : n - (intOf (.int .i64 ((o : Int) + 1))).toNat < n - (intOf (.int .i64 (o : Int))).toNat := by simp [intOf]; omega

set_option maxHeartbeats 8000000 in
theorem refFree_any (w : World) (n : Nat) (a : Option Addr) (c : Nat) (X : List Bd.Bk) (h : PgAt w a X) (hn : n ≤ 10) (hk : Bd.chk n 0 X = true) :
    Calls Try.prog 10 #[bud (n : Int) a X.length c] w fun e w' => ∃ v, e = .returned v ∧ OwnPg w' w.heap.size v (Bd.free n X) ∧ Below w.heap.size w w' := by
  unfold bud
  obtain ⟨i0, hi, hz0, hz1, hz2⟩ := info_parts block_info
  have H := hid h
  have HK := hid hk
  have hXl := Bd.chk_len hk
  obtain ⟨q, Q1, q2, q3, s1, s1'⟩ := shl1 hn
  rw [← Q1.out] at hXl
  obtain ⟨R, hR⟩ : ∃ R, R = Bd.free n X := ⟨_, rfl⟩
  have HR : Hid (∀ L, Bd.Upto (Bd.Tk X) n q L → R = L) := fun L hL => by
    rw [hR]
    rw [Q1.out] at hL
    exact (Bd.free_is hn hk).unique hL
  rw [← hR]
  have HM : Hid (∀ x ∈ X, ∃ xa xo : Nat, x = Bd.bk xa xo ∧ xo ≤ n ∧ xa + 2 ^ xo ≤ q) := fun x hx => by
    obtain ⟨xa, xo, e, g1, g2, g3, _⟩ := Bd.chk_mem hk x hx
    exact ⟨xa, xo, e, g1, by rw [Q1.out]; exact g3⟩
  have hmk := run_make_bools q (by omega)
  have OI := bools_made (w.alloc (.cells #[.int .i64 (n : Int), .slice a X.length c] 24)) q (by unfold maxLen; omega)
  obtain ⟨M, hM⟩ : ∃ M, M = madeCells #[Value.bool false] (q * 1) := ⟨_, rfl⟩
  rw [← hM] at hmk OI
  rw [World.size_alloc] at OI
  have hb1 := bx (w.alloc (.cells #[.int .i64 (n : Int), .slice a X.length c] 24)) (.cells M 4)
  have hb2 := bx ((w.alloc (.cells #[.int .i64 (n : Int), .slice a X.length c] 24)).alloc (.cells M 4)) (.cells #[.slice (some ⟨w.heap.size + 1, 0, none⟩) q q] 50)
  have OI0 : Hid (OwnBools (((w.alloc (.cells #[.int .i64 (n : Int), .slice a X.length c] 24)).alloc (.cells M 4)).alloc (.cells #[.slice (some ⟨w.heap.size + 1, 0, none⟩) q q] 50)) (w.heap.size + 1) (.slice (some ⟨w.heap.size + 1, 0, none⟩) q q) (Bd.pl q (Bd.tk (X.take 0)))) := by
    show OwnBools _ _ _ _
    rw [List.take_zero, Bd.tk_nil]
    exact OI.below hb2
  obtain ⟨c0, c1⟩ := keep2 (below_tr hb1 hb2) (now2 w (.int .i64 (n : Int)) (.slice a X.length c) 24)
  have c4 := now1 ((w.alloc (.cells #[.int .i64 (n : Int), .slice a X.length c] 24)).alloc (.cells M 4)) (.slice (some ⟨w.heap.size + 1, 0, none⟩) q q) 50
  rw [World.size_alloc, World.size_alloc] at c4
  have B0 := hid (below_tr (below_tr (bx w (.cells #[.int .i64 (n : Int), .slice a X.length c] 24)) hb1) hb2)
  have HQ3 := hid q3
  have HQ2 := hid q2
  have HNN := hid hn
  have hq2 : (q : Int) ≤ 1024 := by omega
  have hl2 : (X.length : Int) ≤ 1024 := by omega
  have HP1 : Hid (w.heap.size ≠ w.heap.size + 1) := Nat.ne_of_lt (Nat.lt_succ_self _)
  have HP2 : Hid (w.heap.size + 1 + 1 ≠ w.heap.size + 1) := Nat.ne_of_gt (Nat.lt_succ_self _)
  have HB0 : Hid (w.heap.size ≤ w.heap.size + 1) := Nat.le_succ _
  clear h hk hXl hR hM OI hb1 hb2 q2 q3
  go_enter Try.func10, Try.ntmps10
  go_wp2_with fail
  clear hmk
  generalize ((w.alloc (.cells #[.int .i64 (n : Int), .slice a X.length c] 24)).alloc (.cells M 4)).alloc (.cells #[.slice (some ⟨w.heap.size + 1, 0, none⟩) q q] 50) = W0 at *
  generalize hbq : w.heap.size + 1 + 1 = b4 at *
  generalize hgp : w.heap.size + 1 = gp at *
  clear hgp hbq hn
  go_loopw [20] (fun i wr => ∃ k : Nat, k ≤ X.length ∧ i = .int .i64 (k : Int) ∧ Hid (OwnBools wr gp (.slice (some ⟨gp, 0, none⟩) q q) (Bd.pl q (Bd.tk (X.take k)))) ∧ Hid (Goes (fun b => b = gp) W0 wr (fun b => b = gp))) (fun i _ => X.length - (intOf i).toNat)
  case atStart => exact ⟨0, Nat.zero_le _, rfl, OI0, Goes.refl _ _⟩
  case round =>
    obtain ⟨k, hkl, rfl, hO, hG⟩ := hrel
    have e0 := cell_goes c0 hG.out HP1.out
    have e1 := cell_goes c1 hG.out HP1.out
    have e4 := cell_goes c4 hG.out HP2.out
    have BR : Hid (Below w.heap.size w wr) := B0.out.trans (hG.out.below B0.out.size (fun b hb => by have := HB0.out; rw [hb]; exact this))
    by_cases hlt : k < X.length
    · obtain ⟨x, hx⟩ : ∃ x, X[k]? = some x := ⟨_, List.getElem?_eq_getElem hlt⟩
      obtain ⟨bb, oo, rfl, d1, d2⟩ := (H.out.below BR.out) k x hx
      obtain ⟨ka, ko, rfl, g1, g3⟩ := HM.out x (List.mem_of_getElem? hx)
      replace d1 : wr.cell? ⟨bb, oo + k * 2, none⟩ = some (.int .i64 (ka : Int)) := d1
      replace d2 : wr.cell? ⟨bb, oo + k * 2 + 1, none⟩ = some (.int .i64 (ko : Int)) := d2
      obtain ⟨k0, k1⟩ := rf_k hlt
      have hko := Nat.le_trans g1 HNN.out
      obtain ⟨p, P1, p2, p3, t1, t1'⟩ := shl1 hko
      rw [← P1.out] at g3
      have HAP := hid g3
      have NT := hid (Bd.take_snoc hx)
      have HLT := hid hlt
      have O3 : Hid (OwnBools (wr.alloc (.cells #[.int .i64 (ka : Int), .int .i64 (ko : Int)] 37)) gp (.slice (some ⟨gp, 0, none⟩) q q) (Bd.pl q (Bd.mk (X.take k) ka 0))) := by
        have e : Bd.mk (X.take k) ka 0 = Bd.tk (X.take k) := funext fun p => Bd.mk_zero _ _ _
        show OwnBools _ _ _ _
        rw [e]
        exact hO.out.below (bx _ _)
      have G3 := hid (hG.out.alloc (.cells #[.int .i64 (ka : Int), .int .i64 (ko : Int)] 37))
      have Y0 := hid (now2 wr (.int .i64 (ka : Int)) (.int .i64 (ko : Int)) 37).1
      have Y4 := hid (keep1 (bx wr (.cells #[.int .i64 (ka : Int), .int .i64 (ko : Int)] 37)) e4)
      have HNG : Hid (wr.heap.size ≠ gp) := fun e => Nat.ne_of_gt (hO.out.lt gp rfl).2 e
      clear hx hlt hkl g1 g3 p2 p3 hO hG BR e0 e4
      go_wp2_with fail
      clear d1 d2 k0 k1 e1
      generalize wr.heap.size = bx9 at *
      generalize wr.alloc (.cells #[.int .i64 (ka : Int), .int .i64 (ko : Int)] 37) = W2 at *
      go_loopw [27] (fun j ws => ∃ m : Nat, m ≤ p ∧ j = .int .i64 (m : Int) ∧ Hid (OwnBools ws gp (.slice (some ⟨gp, 0, none⟩) q q) (Bd.pl q (Bd.mk (X.take k) ka m))) ∧ Hid (Goes (fun b => b = gp) W2 ws (fun b => b = gp))) (fun j _ => p - (intOf j).toNat)
      case atStart => exact ⟨0, Nat.zero_le _, rfl, O3, Goes.refl _ _⟩
      case round =>
        obtain ⟨m, hmp, rfl, hO2, hG2⟩ := hrel
        by_cases hm : m < p
        · have y0 := cell_goes Y0.out hG2.out HNG.out
          have y4 := cell_goes Y4.out hG2.out HP2.out
          have hlt := inner_lt HAP.out hm
          have hat := hO2.out.cell (Bd.pl_at (Bd.mk (X.take k) ka m) hlt)
          have hfz := hO2.out.fz (ka + m)
          obtain ⟨i1, i2, i3, i4, i6⟩ := rf_idx HAP.out HQ3.out hm
          have HMm := hid hm
          have NS := hid (hO2.out.set (ka + m) true)
          rw [Bd.mk_set] at NS
          have NG := hid (hG2.out.setCell (q := ⟨gp, ka + m, none⟩) (.inl rfl) (.bool true))
          generalize Bd.mk (X.take k) ka m (ka + m) = vv at *
          clear hO2 hG2 hmp hm hlt
          go_wp2_with fail
          go_roundw
          case rel => exact ⟨m + 1, HMm.out, by go_num, NS, NG⟩
          case measure => exact inner_meas HMm.out
        · obtain rfl : m = p := Nat.le_antisymm hmp (Nat.le_of_not_lt hm)
          have j3 : decide ((m : Int) < (m : Int)) = false := by simp
          have kk : (k : Int) ≤ 1024 := Int.le_trans (Int.ofNat_le.2 (Nat.le_of_lt HLT.out)) hl2
          have NO : Hid (OwnBools wr gp (.slice (some ⟨gp, 0, none⟩) q q) (Bd.pl q (Bd.tk (X.take (k + 1))))) := by
            have h1 := hO2.out
            have e : Bd.mk (X.take k) ka m = Bd.tk (X.take (k + 1)) := by
              rw [P1.out, NT.out]
              exact funext fun p => Bd.mk_all _ _ _ _
            rw [e] at h1
            exact h1
          have NG := hid (G3.out.trans hG2.out)
          clear hO2 hG2 hmp hm
          go_wp2_with fail
          go_roundw
          case rel => exact ⟨k + 1, HLT.out, by go_num, NO, NG⟩
          case measure => exact inner_meas HLT.out
    · obtain rfl : k = X.length := Nat.le_antisymm hkl (Nat.le_of_not_lt hlt)
      have j3 : decide ((X.length : Int) < (X.length : Int)) = false := by simp
      have O8 := hO.out
      rw [List.take_length] at O8
      have I8 : Hid (BoolsAt wr (some ⟨gp, 0, none⟩) (Bd.pl q (Bd.tk X))) := by
        obtain ⟨a8, c8, e8, h8, -⟩ := O8.at_
        injection e8 with e8 _ _
        rw [e8]
        exact h8
      have E0 := hid e0
      have E4 := hid e4
      clear hO hG O8 hkl hlt e0 e1 e4 c0 c1 c4 OI0 HM
      go_wp2_with fail
      have HW1 : Hid (w.heap.size ≤ wr.heap.size) := BR.out.size
      generalize hW1 : wr = W1 at *
      clear hW1
      go_loopw [10, 9] (fun i u ws => ∃ (p : Nat) (L : List Bd.Bk) (ua : Option Addr) (uc : Nat), p ≤ q ∧ i = .int .i64 (p : Int) ∧ u = .slice ua L.length uc ∧ Hid (Bd.Upto (Bd.Tk X) n p L) ∧ Hid (OwnPg ws W1.heap.size u L) ∧ Hid (Below W1.heap.size W1 ws)) (fun i _ _ => q - (intOf i).toNat)
      case atStart => exact ⟨0, [], none, 0, Nat.zero_le _, rfl, rfl, hid Bd.Upto.start, OwnPg.nil _ _, Below.refl _ _⟩
      case round =>
        obtain ⟨p, L, ua, uc, hpq, rfl, rfl, hU, hO, hB⟩ := hrel
        have e0 := keep1 hB.out E0.out
        have e4 := keep1 hB.out E4.out
        by_cases hp : p < q
        · obtain ⟨b8, o8, eb, d1⟩ := (I8.out.below hB.out) p _ (Bd.pl_at (Bd.tk X) hp)
          cases eb
          rw [Nat.zero_add] at d1
          obtain ⟨p0, p1⟩ := rf_k hp
          have HP := hid hp
          have pp : (p : Int) ≤ 1024 := Int.le_trans (Int.le_of_lt p1) hq2
          cases hv : Bd.tk X p with
          | true =>
            have NU := hid (hU.out.taken (by rw [← Q1.out]; exact hp) ((Bd.tk_iff HK.out p).1 hv))
            rw [hv] at d1
            clear hv hU hp hpq
            go_wp2_with fail
            go_roundw
            case rel => exact ⟨p + 1, L, ua, uc, HP.out, by go_num, rfl, NU, hO, hB⟩
            case measure => exact inner_meas HP.out
          | false =>
            have F0 := hid (Bd.isF_zero HK.out (by rw [← Q1.out]; exact hp) hv)
            rw [hv] at d1
            clear hv hp hpq
            go_wp2_with fail
            clear d1 p0 p1
            go_loopw [11] (fun j wt => ∃ o : Nat, o ≤ n ∧ j = .int .i64 (o : Int) ∧ Hid (Bd.Fr (Bd.Tk X) n (Bd.base p o) o) ∧ Hid (Below wr.heap.size wr wt)) (fun j _ => n - (intOf j).toNat)
            case atStart => exact ⟨0, Nat.zero_le _, rfl, F0, Below.refl _ _⟩
            case round =>
              obtain ⟨o, hon, rfl, hF, hC⟩ := hrel
              obtain ⟨o1, o2, o3⟩ := rf_o hon HNN.out
              have KI := is_any _ X n q p (o + 1) w.heap.size b4 gp Q1.out HNN.out HP.out o2 (keep1 hC.out e0) (keep1 hC.out e4) (I8.out.below (below_tr hB.out hC.out))
              rw [cast1] at KI
              have KIh := hid KI
              clear KI
              cases hz : Bd.isF X n p (o + 1) with
              | true =>
                have NF := hid ((Bd.isF_iff HK.out (by rw [← Q1.out]; exact HP.out)).1 hz)
                have HON : Hid (o + 1 ≤ n) := NF.out.1
                rw [hz] at KIh
                clear hz hF hon o2
                go_wp2_with fail
                refine KIh.out.mono ?_
                rintro r w5 ⟨rfl, hb5⟩
                have NC := hid (below_tr hC.out hb5)
                clear hb5 KIh hC
                go_wp2_with fail
                go_roundw
                case rel => exact ⟨o + 1, HON.out, by go_num, NF, NC⟩
                case measure => exact rf_omeas HON.out
              | false =>
                have hx := Bd.isF_last HK.out (by rw [← Q1.out]; exact HP.out) hF.out hz
                rw [hU.out.first hx (Bd.base_le p o) (Bd.base_lt p o)] at hx
                have NU := hid (hU.out.free hx)
                have hle := hx.1.2.2.1
                obtain ⟨m, M1, m2, m3, t1, t1'⟩ := shl1 o3
                rw [← M1.out] at NU hle
                rw [← Q1.out] at hle
                have HLE := hid hle
                have HM2 := hid m2
                obtain ⟨w1, w2⟩ := rf_end hle HQ3.out
                have HW2 := hid w2
                clear w2
                have hroom := rf_room (upto_len hU.out) HP.out HQ3.out
                have HRm := hid hroom
                rw [hz] at KIh
                clear hz hF hx hle m2 m3 hU hroom hon o2
                go_wp2_with fail
                refine KIh.out.mono ?_
                rintro r w5 ⟨rfl, hb5⟩
                have NC := hid (below_tr hC.out hb5)
                have O5 := hid (hO.out.below NC.out)
                have B5 := hid (below_tr hB.out NC.out)
                have hs5 := B5.out.size
                clear hb5 KIh hC hO hB NC
                go_wp2_with (at_builtin; refine wpList_append_own _ rfl _ _ 22 rfl W1.heap.size 37 i0 (.agg #[.int .i64 0, .int .i64 0]) 2 16 Try.underlying22 hi hz0 hz1 hz2 rfl (by decide) _ _ _ rfl (O5.out.keepAlloc _) ⟨w5.heap.size, 0, none⟩ 1 1 (sc (Bd.bk p o)) rfl rfl ?qc2 ?qc3 ?qc4 ?qc5 ?qc6 ?_)
                case qc2 => exact one_cells w5 (Bd.bk p o)
                case qc3 => exact sc_one _
                case qc4 => exact HRm.out.1
                case qc5 => exact HRm.out.2
                case qc6 => rw [World.size_alloc]; exact Nat.le_succ_of_le hs5
                intro v6 w6 hown hgrow _
                have O6 := hid (OwnPg.grows hown)
                have B6 : Hid (Below W1.heap.size W1 w6) := (B5.out.alloc hs5 _).grown hgrow (by rw [World.size_alloc]; exact Nat.le_succ_of_le hs5) (fun k hk => (O5.out.lt k hk).1)
                obtain ⟨a6, k6, rfl, -⟩ := O6.out.at_
                clear hown hgrow O5 B5 hs5
                go_wp2_with fail
                go_roundw
                case rel => exact ⟨p + m, L ++ [Bd.bk p o], a6, k6, HLE.out, by rw [HW2.out], rfl, NU, O6, B6⟩
                case measure => rw [HW2.out]; exact rf_meas HP.out HM2.out
        · obtain rfl : p = q := Nat.le_antisymm hpq (Nat.le_of_not_lt hp)
          have j3 : decide ((p : Int) < (p : Int)) = false := by simp
          have HE := hid (HR.out L hU.out)
          clear hU hp hpq
          go_wp2_with fail
          go_ret
          exact ⟨_, rfl, by rw [HE.out]; exact hO.out.lower HW1.out, BR.out.trans (hB.out.mono HW1.out)⟩

end Go.Proofs.Ytodimkkgmidgcab.PBuddy
