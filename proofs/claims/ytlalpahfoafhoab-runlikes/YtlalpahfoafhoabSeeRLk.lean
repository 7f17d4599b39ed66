/- quirref.nth, whichOne, Like, walked: each answers what the plain words say, and nothing that was there has turned. Conditions: the runs are right; the capacities are no less than the lengths. -/
import Derived.Test.YtlalpahfoafhoabRunRef
import Derived.Test.YtlalpahfoafhoabRunOw
import Derived.Test.YtlalpahfoafhoabSeeEqO
import Derived.Test.YtlalpahfoafhoabSeeLkN
import Derived.Deep.CutRange
import Derived.Deep.RegionHeld3
namespace Go.Proofs.Ytlalpahfoafhoab.PSee
open Go Go.RowKit PPool PGraph PRun
set_option maxRecDepth 100000

set_option maxHeartbeats 2000000 in
theorem nth_any (w : World) (a : Option Addr) (c : Nat) (X : List Rn.Op) (t n : Nat) (h : OpAt w a X) (hl : X.length ≤ 4096) (hn : n ≤ 4096) :
    Calls Try.prog 94 #[.slice a X.length c, .int .i64 (t : Int), .int .i64 (n : Int)] w fun e w' => e = .returned (.int .i64 (Se.nthI X t n)) ∧ Below w.heap.size w w' := by
  obtain ⟨Y, hY⟩ : ∃ Y, Y = Se.nthI X t n := ⟨_, rfl⟩
  rw [← hY]
  have HY := hid hY
  have H := hid h
  clear hY h
  go_enter Try.func94, Try.ntmps94
  go_wp2_with fail
  go_loopw [2, 7, 8, 11] (fun m _ _ i wr => ∃ k d : Nat, k ≤ X.length ∧ i = .int .i64 (k : Int) ∧ m = .int .i64 (d : Int) ∧ d ≤ 4096 ∧ Hid (Rn.rank X k t + d = n) ∧ Hid (Below w.heap.size w wr)) (fun _ _ _ i _ => X.length - (intOf i).toNat)
  case atStart => exact ⟨0, n, Nat.zero_le _, rfl, rfl, hn, (by show _ = _; simp [Rn.rank, Rn.own]), Below.refl _ _⟩
  case round =>
    obtain ⟨k, d, hk, rfl, rfl, hd, hR, hb⟩ := hrel
    by_cases hlt : k < X.length
    rotate_left
    · obtain rfl : k = X.length := by omega
      have HF : Hid (Y = -1) := HY.out.trans (Se.nthI_none (by have := hR.out; omega))
      clear hR
      go_wp2_with fail
      go_ret
      exact ⟨by rw [HF.out]; rfl, hb.out⟩
    obtain ⟨x, hx⟩ : ∃ x, X[k]? = some x := ⟨_, List.getElem?_eq_getElem hlt⟩
    obtain ⟨b, o, rfl, d1, d2, d3⟩ := (H.out.below hb.out) k x hx
    have k0 : (0 : Int) ≤ (k : Int) := by omega
    have k1 : (k : Int) < (X.length : Int) := by omega
    have hnext := hid (Rn.rank_next hx t)
    have hat := hid (fun h => Se.nthI_at (t := t) hx h)
    clear hx
    obtain ⟨ox, ok, oi⟩ := x
    simp only at d1 d2 d3 hnext hat
    have B1 : ∀ o1 : Obj, Hid (Below w.heap.size w (wr.alloc o1)) := fun o1 => below_tr hb.out (bx _ _)
    clear hb
    by_cases hx : ox = (t : Int)
    rotate_left
    · have hxB : (ox != (t : Int)) = true := by simpa using hx
      have hR2 : Hid (Rn.rank X (k + 1) t + d = n) := by show _ = _; rw [hnext.out, if_neg hx]; exact hR.out
      clear hx hnext hat hR
      go_wp2_with fail
      go_roundw
      case rel => exact ⟨k + 1, d, by omega, by go_num, rfl, hd, hR2, B1 _⟩
      case measure => simp [intOf]; omega
    have hxB : (ox != (t : Int)) = false := by simpa using hx
    by_cases hd0 : d = 0
    · subst hd0
      have HF : Hid (Y = (k : Int)) := by
        show _ = _
        rw [HY.out, ← hR.out, Nat.add_zero]
        exact hat.out hx
      have z0 : (((0 : Nat) : Int) == 0) = true := by decide
      clear hx hnext hat hR
      go_wp2_with fail
      go_ret
      exact ⟨by rw [HF.out]; rfl, (B1 _).out⟩
    · have hR2 : Hid (Rn.rank X (k + 1) t + (d - 1) = n) := by show _ = _; rw [hnext.out, if_pos hx]; have := hR.out; omega
      have hdB : ((d : Int) == 0) = false := by simp; omega
      have d0 : (0 : Int) < (d : Int) := by omega
      have d1' : (d : Int) ≤ 4096 := by omega
      have hdm : (d : Int) - 1 = ((d - 1 : Nat) : Int) := by omega
      have hdm := hid hdm
      clear hx hnext hat hR
      go_wp2_with fail
      go_roundw
      case rel => exact ⟨k + 1, d - 1, by omega, by go_num, by rw [← hdm.out], by omega, hR2, B1 _⟩
      case measure => simp [intOf]; omega

set_option maxHeartbeats 2000000 in
theorem which_any (w : World) (a : Option Addr) (c : Nat) (X : List Rn.Op) (k t : Nat) (o : Rn.Op) (h : OpAt w a X) (hl : X.length ≤ 4096) (hcap : X.length ≤ c) (ho : X[k]? = some o) (hx : o.x = t) :
    Calls Try.prog 95 #[.slice a X.length c, .int .i64 (k : Int)] w fun e w' => e = .returned (.int .i64 (Rn.rank X k t : Nat)) ∧ Below w.heap.size w w' := by
  have hk := (List.getElem?_eq_some_iff.1 ho).1
  have hrk : (Rn.own (X.take k) t).length = Rn.rank X k t := rfl
  have htk : (X.take k).length = k := by rw [List.length_take]; omega
  have KO := hid fun W b h => own_any W b c (X.take k) t h (by rw [htk]; omega)
  rw [htk] at KO
  have H := hid h
  obtain ⟨b, o1, rfl, d1, -⟩ := h k o ho
  rw [hx] at d1
  have k0 : (0 : Int) ≤ (k : Int) := by omega
  have k1 : (k : Int) < (X.length : Int) := by omega
  have kc : (k : Int) ≤ (c : Int) := by omega
  have SB : Hid (∀ W, Below w.heap.size w W → W.cell? ⟨b, o1 + k * 3, none⟩ = some (.int .i64 (t : Int))) := fun W hW => keep1 hW d1
  obtain ⟨L, hL⟩ : ∃ L, L = Rn.own (X.take k) t := ⟨_, rfl⟩
  have HR : Hid (L.length = Rn.rank X k t) := by show _ = _; rw [hL, hrk]
  rw [← hL] at KO
  clear h ho hx hrk htk hL
  go_enter Try.func95, Try.ntmps95
  go_upto_region 1 with fail
  go_region_held3 (fun W => W.cell? ⟨b, o1 + k * 3, none⟩ = some (.int .i64 (t : Int)))
    ((refine SB.out _ ?_; first | exact B5.out | repeat (first | exact Below.refl _ _ | refine Below.drew ?_)))
    ((go_at_call 93; refine (KO.out _ _ ((H.out.drew).take k)).mono ?_; rintro r w5 ⟨v5, rfl, ho5, hb5⟩; have B5 : Hid (Below w.heap.size w w5) := below_tr (Below.refl _ _).drew hb5; obtain ⟨a5, c5, rfl, -⟩ := ho5.at_; clear hb5 ho5))
  all_goals
    go_wp2_with fail
    go_ret
    exact ⟨by rw [← HR.out]; rfl, B5.out⟩

theorem rank_le {X : List Rn.Op} {k t : Nat} : Rn.rank X k t ≤ k := by unfold Rn.rank Rn.own; exact Nat.le_trans (List.length_filter_le _ _) (by rw [List.length_take]; omega)
set_option maxHeartbeats 8000000 in
theorem rlike_any (w : World) (a1 a2 : Option Addr) (c1 c2 : Nat) (X Y : List Rn.Op) (h1 : OpAt w a1 X) (h2 : OpAt w a2 Y) (hv1 : Rn.check X = 0) (hv2 : Rn.check Y = 0) (hcap : X.length ≤ c1) :
    Calls Try.prog 43 #[.slice a1 X.length c1, .slice a2 Y.length c2] w fun e w' => e = .returned (.bool (Rn.like X Y)) ∧ Below w.heap.size w w' := by
  have lx := (Rn.check_zero hv1).1
  have ly := (Rn.check_zero hv2).1
  have gX : ∀ o ∈ X, 0 ≤ o.x ∧ o.x < 12 := fun o ho => ⟨(Rn.good_mem hv1 ho).x0, (Rn.good_mem hv1 ho).x1⟩
  have gY : ∀ o ∈ Y, 0 ≤ o.x ∧ o.x < 12 := fun o ho => ⟨(Rn.good_mem hv2 ho).x0, (Rn.good_mem hv2 ho).x1⟩
  obtain ⟨Z, hZ⟩ : ∃ Z, Z = Rn.like X Y := ⟨_, rfl⟩
  rw [← hZ]
  have HZ : Hid (Z = (Se.ownEq X Y 12 && Rn.keeps X (Rn.img X Y))) := by show _ = _; rw [hZ, ← Se.same_ownEq gX gY]; rfl
  have HSm : Hid (Se.ownEq X Y 12 = true → Rn.same X Y = true) := fun h => by rw [Se.same_ownEq gX gY]; exact h
  have H1 := hid h1
  have H2 := hid h2
  have HV1 := hid hv1
  have KO1 := hid fun W t h => own_any W a1 c1 X t h (by omega)
  have KO2 := hid fun W t h => own_any W a2 c2 Y t h (by omega)
  have KE := hid fun W b1 b2 d1 d2 L1 L2 h1 h2 l1 l2 => equalO_any W b1 b2 d1 d2 L1 L2 h1 h2 l1 l2
  clear hZ h1 h2 hv1 hv2 gX gY
  go_enter Try.func43, Try.ntmps43
  go_wp2_with fail
  go_loopw [5, 9] (fun _ i wr => ∃ k : Nat, k ≤ 12 ∧ i = .int .i64 (k : Int) ∧ Hid (Se.ownEq X Y k = true) ∧ Hid (Below w.heap.size w wr)) (fun _ i _ => 12 - (intOf i).toNat)
  case atStart => exact ⟨0, Nat.zero_le _, rfl, rfl, Below.refl _ _⟩
  case round =>
    obtain ⟨k, hk, rfl, hE, hb⟩ := hrel
    by_cases hlt : k < 12
    · have k0 : (0 : Int) ≤ (k : Int) := by omega
      have k1 : (k : Int) < 12 := by omega
      have KO1 := hid fun W h => KO1.out W k h
      have KO2 := hid fun W h => KO2.out W k h
      have KE := hid fun W b1 b2 d1 d2 h1 h2 => KE.out W b1 b2 d1 d2 (Rn.own X k) (Rn.own Y k) h1 h2 (by have := own_le X k; omega) (by have := own_le Y k; omega)
      have HN := hid (Se.ownEq_next X Y k)
      have HX := hid (Se.ownEq_not (X := X) (Y := Y) hlt)
      have hD : ∀ {α : Type} [DecidableEq α] (x y : α), (¬ x = y) → decide (x = y) = false := fun x y h => decide_eq_false h
      obtain ⟨D, hDe⟩ : ∃ D, D = decide (Rn.own X k = Rn.own Y k) := ⟨_, rfl⟩
      have HX2 : Hid (D = false → Se.ownEq X Y 12 = false) := fun h => HX.out (of_decide_eq_false (hDe ▸ h))
      rw [← hDe] at KE HN
      clear hDe HX hD
      go_wp2_with fail
      refine (KO1.out _ (H1.out.below hb.out)).mono ?_
      rintro r w1 ⟨v1, rfl, ho1, hb1⟩
      have B1 : Hid (Below w.heap.size w w1) := below_tr hb.out hb1
      obtain ⟨b1, d1, rfl, hp1, -⟩ := ho1.at_
      have P1 := hid hp1
      clear hb1 ho1 hp1 hb KO1
      go_wp2_with fail
      refine (KO2.out _ (H2.out.below B1.out)).mono ?_
      rintro r w2 ⟨v2, rfl, ho2, hb2⟩
      have B2 : Hid (Below w.heap.size w w2) := below_tr B1.out hb2
      have P1 : Hid (OpAt w2 b1 (Rn.own X k)) := P1.out.below hb2
      obtain ⟨b2, d2, rfl, hp2, -⟩ := ho2.at_
      have P2 := hid hp2
      clear hb2 ho2 hp2 B1 KO2
      go_wp2_with fail
      refine (KE.out _ b1 b2 d1 d2 P1.out P2.out).mono ?_
      rintro r w3 ⟨rfl, hb3⟩
      have B3 : Hid (Below w.heap.size w w3) := below_tr B2.out hb3
      clear hb3 P1 P2 B2 KE
      cases D with
      | false =>
        have HF : Hid (Z = false) := by show _ = _; rw [HZ.out, HX2.out rfl]; rfl
        clear HN HX2 hE
        go_wp2_with fail
        go_ret
        exact ⟨by rw [HF.out]; rfl, B3.out⟩
      | true =>
        have hE2 : Hid (Se.ownEq X Y (k + 1) = true) := by show _ = _; rw [HN.out, hE.out]; rfl
        clear HN HX2 hE
        go_wp2_with fail
        go_roundw
        case rel => exact ⟨k + 1, by omega, by go_num, hE2, B3⟩
        case measure => simp [intOf]; omega
    · obtain rfl : k = 12 := by omega
      have HS := hid (HSm.out hE.out)
      have HZ2 : Hid (Z = Rn.keeps X (Rn.img X Y)) := by show _ = _; rw [HZ.out, hE.out]; rfl
      clear KO1 KO2 KE hE HZ HSm hlt hk
      go_wp2_with fail
      go_loopw [6, 7, 8, 23] (fun _ _ _ i wr => ∃ k : Nat, k ≤ X.length ∧ i = .int .i64 (k : Int) ∧ Hid (Se.Free X (Rn.img X Y) k 0) ∧ Hid (Below w.heap.size w wr)) (fun _ _ _ i _ => X.length - (intOf i).toNat)
      case atStart => exact ⟨0, Nat.zero_le _, rfl, Se.Free.none _ _, hb⟩
      case round =>
        clear hb
        obtain ⟨i, hi, rfl, hF, hb⟩ := hrel
        by_cases hlt : i < X.length
        rotate_left
        · have HT : Hid (Z = true) := HZ2.out.trans (hF.out.all (by omega))
          obtain rfl : i = X.length := by omega
          clear hF
          go_wp2_with fail
          go_ret
          exact ⟨by rw [HT.out]; rfl, hb.out⟩
        obtain ⟨x, hx⟩ : ∃ x, X[i]? = some x := ⟨_, List.getElem?_eq_getElem hlt⟩
        obtain ⟨b, o, rfl, d1, d2, d3⟩ := (H1.out.below hb.out) i x hx
        have i0 : (0 : Int) ≤ (i : Int) := by omega
        have i1 : (i : Int) < (X.length : Int) := by omega
        have gx := hid (Rn.good_at HV1.out hx)
        have HX := hid hx
        clear hx
        obtain ⟨tx, htx⟩ : ∃ tx : Nat, x.x = (tx : Int) := ⟨x.x.toNat, by have := gx.out.x0; omega⟩
        have HTx := hid htx
        have KW1 := hid fun W h => which_any W (some ⟨b, o, none⟩) c1 X i tx x h (by omega) hcap HX.out HTx.out
        have KN1 := hid fun W h => nth_any W a2 c2 Y tx (Rn.rank X i tx) h (by omega) (by have := rank_le (X := X) (k := i) (t := tx); omega)
        have hn1 : Se.nthI Y tx (Rn.rank X i tx) = (Rn.img X Y i : Nat) := by
          have := Se.nthI_img HS.out HX.out
          rw [show x.x.toNat = tx by omega] at this
          exact this
        rw [hn1] at KN1
        obtain ⟨xx, xk, xi⟩ := x
        obtain rfl : xx = (tx : Int) := htx
        simp only at d1 d2 d3
        obtain ⟨M, hM⟩ : ∃ M, M = wr.heap.size := ⟨_, rfl⟩
        have A0 : ∀ T, Hid (ArrAt (wr.alloc (.cells #[.int .i64 (tx : Int), .int .i64 xk, .int .i64 xi] T)) M #[.int .i64 (tx : Int), .int .i64 xk, .int .i64 xi] ∧ Below w.heap.size w (wr.alloc (.cells #[.int .i64 (tx : Int), .int .i64 xk, .int .i64 xi] T))) := fun T => by rw [hM]; exact ⟨ArrAt.new wr _ T, below_tr hb.out (bx _ _)⟩
        have hF1 : Hid (Se.Free X (Rn.img X Y) i (i + 1)) := hF.out.start
        clear hF hb hn1
        go_wp2_with fail
        rw [← hM]
        clear hM d1 d2 d3
        go_loopw [8] (fun j wr => ∃ k : Nat, k ≤ X.length ∧ i < k ∧ j = .int .i64 (k : Int) ∧ Hid (Se.Free X (Rn.img X Y) i k) ∧ Hid (ArrAt wr M #[.int .i64 (tx : Int), .int .i64 xk, .int .i64 xi] ∧ Below w.heap.size w wr)) (fun j _ => X.length - (intOf j).toNat)
        case atStart => exact ⟨i + 1, hlt, Nat.lt_succ_self _, by go_num, hF1, A0 _⟩
        case round =>
          clear A0 hF1
          obtain ⟨k, hk, hik, rfl, hF, hA⟩ := hrel
          by_cases hkl : k < X.length
          rotate_left
          · obtain rfl : k = X.length := by omega
            have hF2 : Hid (Se.Free X (Rn.img X Y) (i + 1) 0) := hF.out.round (Nat.le_refl _)
            have hB := hid hA.out.2
            clear hF hA
            go_wp2_with fail
            go_roundw
            case rel => first
              | exact ⟨i + 1, by omega, by go_num, hF2, hB⟩
              | ((repeat apply Exists.intro); exact ⟨⟨i + 1, by omega, by go_num, hF2, hB⟩, rfl⟩)
            case measure => simp [intOf]; omega
          obtain ⟨y, hy⟩ : ∃ y, X[k]? = some y := ⟨_, List.getElem?_eq_getElem hkl⟩
          obtain ⟨b', o', e, e1, e2, e3⟩ := (H1.out.below hA.out.2) k y hy
          injection e with e
          injection e with g1 g2
          subst g1; subst g2
          have k0 : (0 : Int) ≤ (k : Int) := by omega
          have k1 : (k : Int) < (X.length : Int) := by omega
          have gy := hid (Rn.good_at HV1.out hy)
          obtain ⟨ty, hty⟩ : ∃ ty : Nat, y.x = (ty : Int) := ⟨y.x.toNat, by have := gy.out.x0; omega⟩
          have HTy := hid hty
          have KW2 := hid fun W h => which_any W (some ⟨b, o, none⟩) c1 X k ty y h (by omega) hcap hy HTy.out
          have KN2 := hid fun W h => nth_any W a2 c2 Y ty (Rn.rank X k ty) h (by omega) (by have := rank_le (X := X) (k := k) (t := ty); omega)
          have hn2 : Se.nthI Y ty (Rn.rank X k ty) = (Rn.img X Y k : Nat) := by
            have := Se.nthI_img HS.out hy
            rw [show y.x.toNat = ty by omega] at this
            exact this
          rw [hn2] at KN2
          have KCL := hid fun W => rclash_any W ⟨(tx : Int), xk, xi⟩ y gx.out gy.out
          have HT := hid (Rn.tangled_at HX.out hy (Rn.img X Y))
          have HTN := hid fun h => Se.tangled_not (X := X) (f := Rn.img X Y) hik hkl h
          obtain ⟨yx, yk, yi⟩ := y
          obtain rfl : yx = (ty : Int) := hty
          simp only at e1 e2 e3 KCL
          obtain ⟨u, hu⟩ : ∃ u, u = Rn.img X Y i := ⟨_, rfl⟩
          obtain ⟨v, hv⟩ : ∃ v, v = Rn.img X Y k := ⟨_, rfl⟩
          obtain ⟨n1, hn1⟩ : ∃ n, n = Rn.rank X i tx := ⟨_, rfl⟩
          obtain ⟨n2, hn2'⟩ : ∃ n, n = Rn.rank X k ty := ⟨_, rfl⟩
          obtain ⟨C, hC⟩ : ∃ C, C = Rn.clash ⟨(tx : Int), xk, xi⟩ ⟨(ty : Int), yk, yi⟩ := ⟨_, rfl⟩
          rw [← hC] at KCL HT
          rw [← hu, ← hv] at HT
          rw [← hv, ← hn2'] at KN2
          rw [← hn2'] at KW2
          have KN1' : Hid (∀ W h, _) := hid fun W h => KN1.out W h
          rw [← hu, ← hn1] at KN1'
          have KW1' : Hid (∀ W h, _) := hid fun W h => KW1.out W h
          rw [← hn1] at KW1'
          have SB : Hid (∀ W, Below wr.heap.size wr W → W.cell? ⟨M, 0, none⟩ = some (.int .i64 (tx : Int)) ∧ W.cell? ⟨M, 1, none⟩ = some (.int .i64 xk) ∧ W.cell? ⟨M, 2, none⟩ = some (.int .i64 xi) ∧ W.cell? ⟨b, o + k * 3, none⟩ = some (.int .i64 (ty : Int)) ∧ W.cell? ⟨b, o + k * 3 + 1, none⟩ = some (.int .i64 yk) ∧ W.cell? ⟨b, o + k * 3 + 2, none⟩ = some (.int .i64 yi)) := fun W hW =>
            ⟨(hA.out.1.below hW).cell rfl, (hA.out.1.below hW).cell rfl, (hA.out.1.below hW).cell rfl, keep1 hW e1, keep1 hW e2, keep1 hW e3⟩
          have Q1 : Hid (∀ W, Below wr.heap.size wr W → OpAt W (some ⟨b, o, none⟩) X) := fun W hW => H1.out.below (below_tr hA.out.2 hW)
          have Q2 : Hid (∀ W, Below wr.heap.size wr W → OpAt W a2 Y) := fun W hW => H2.out.below (below_tr hA.out.2 hW)
          have BD : Below wr.heap.size wr wr.drew := (Below.refl _ _).drew
          have fin : Hid (∀ W, Below wr.heap.size wr W → ArrAt W M #[.int .i64 (tx : Int), .int .i64 xk, .int .i64 xi] ∧ Below w.heap.size w W) := fun W hW => ⟨hA.out.1.below hW, below_tr hA.out.2 hW⟩
          clear hC hu hv hn1 hn2' hn2 e1 e2 e3 hA hy
          go_upto_region 13 with fail
          go_cut [61] from 36 to 61 (fun q wx => q = .bool (C && decide (v < u)) ∧ Below wr.heap.size wr wx)
          case first =>
            cases C with
            | false =>
              refine wp_region_held_drew (S := (fun W => W.cell? ⟨M, 0, none⟩ = some (.int .i64 (tx : Int)) ∧ W.cell? ⟨M, 1, none⟩ = some (.int .i64 xk) ∧ W.cell? ⟨M, 2, none⟩ = some (.int .i64 xi) ∧ W.cell? ⟨b, o + k * 3, none⟩ = some (.int .i64 (ty : Int)) ∧ W.cell? ⟨b, o + k * 3 + 1, none⟩ = some (.int .i64 yk) ∧ W.cell? ⟨b, o + k * 3 + 2, none⟩ = some (.int .i64 yi))) (by kernel_rfl) (SB.out _ BD) (fun hHeld => ?_)
              refine wpAnyH_take (i := 0) (v := ?tv1) rfl (by kernel_rfl) (by kernel_rfl) (by kernel_rfl) (fun _ _ _ h => h) (Or.inl ⟨by rfl, ?th1⟩) (by assumption) ?tr1
              case th1 => (intro w hSw; (try dsimp only at hSw); go_simp; all_goals (with_reducible rfl))
              simp only [Act.put, List.getElem_toArray, List.getElem_cons_zero, List.setIfInBounds_toArray, List.set_cons_zero, List.set_cons_succ]
              refine wpAnyH_take (i := 1) (v := ?tv2) rfl (by kernel_rfl) (by kernel_rfl) (by kernel_rfl) (fun _ _ _ h => h) (Or.inl ⟨by rfl, ?th2⟩) (by assumption) ?tr2
              case th2 => (intro w hSw; (try dsimp only at hSw); go_simp; all_goals (with_reducible rfl))
              simp only [Act.put, List.getElem_toArray, List.getElem_cons_zero, List.getElem_cons_succ, List.setIfInBounds_toArray, List.set_cons_zero, List.set_cons_succ]
              refine wpAnyH_take (i := 2) (v := ?tv3) rfl (by kernel_rfl) (by kernel_rfl) (by kernel_rfl) (fun _ _ _ h => h) (Or.inl ⟨by rfl, ?th3⟩) (by assumption) ?tr3
              case th3 => (intro w hSw; (try dsimp only at hSw); go_simp; all_goals (with_reducible rfl))
              simp only [Act.put, List.getElem_toArray, List.getElem_cons_zero, List.getElem_cons_succ, List.setIfInBounds_toArray, List.set_cons_zero, List.set_cons_succ]
              refine wpAnyH_take (i := 3) (v := ?tv4) rfl (by kernel_rfl) (by kernel_rfl) (by kernel_rfl) (fun _ _ _ h => h) (Or.inl ⟨by rfl, ?th4⟩) (by assumption) ?tr4
              case th4 => (intro w hSw; (try dsimp only at hSw); go_simp; all_goals (with_reducible rfl))
              simp only [Act.put, List.getElem_toArray, List.getElem_cons_zero, List.getElem_cons_succ, List.setIfInBounds_toArray, List.set_cons_zero, List.set_cons_succ]
              refine wpAnyH_take (i := 4) (v := ?tv5) rfl (by kernel_rfl) (by kernel_rfl) (by kernel_rfl) (fun _ _ _ h => h) (Or.inl ⟨by rfl, ?th5⟩) (by assumption) ?tr5
              case th5 => (intro w hSw; (try dsimp only at hSw); go_simp; all_goals (with_reducible rfl))
              simp only [Act.put, List.getElem_toArray, List.getElem_cons_zero, List.getElem_cons_succ, List.setIfInBounds_toArray, List.set_cons_zero, List.set_cons_succ]
              refine wpAnyH_ready (rs := [5]) (by kernel_rfl) (by simp) ?_
              refine AllReadyH.cons rfl (fun K hK => ?_) AllReadyH.nil
              go_simp
              refine (KCL.out _).mono ?_
              rintro r v1 ⟨rfl, hv1⟩
              have C1 : Below wr.heap.size wr v1 := below_tr BD hv1
              clear hv1
              refine hK.out _ _ (SB.out _ C1) (fun hHeld => ?_)
              clear hK K
              try simp only [Act.put, List.getElem_toArray, List.getElem_cons_zero, List.getElem_cons_succ, List.setIfInBounds_toArray, List.set_cons_zero, List.set_cons_succ]
              refine wpAnyH_take (i := 6) (v := ?tv6) rfl (by kernel_rfl) (by kernel_rfl) (by kernel_rfl) (fun _ _ _ h => h) (Or.inl ⟨by rfl, ?th6⟩) (by assumption) ?tr6
              case th6 => (intro w hSw; (try dsimp only at hSw); go_simp; all_goals (with_reducible rfl))
              simp only [Act.put, List.getElem_toArray, List.getElem_cons_zero, List.getElem_cons_succ, List.setIfInBounds_toArray, List.set_cons_zero, List.set_cons_succ]
              refine wpAnyH_take (i := 7) (v := undef) rfl (by kernel_rfl) (by kernel_rfl) (by kernel_rfl) (fun _ _ _ h => h) (Or.inr ⟨by rfl, rfl⟩) (by assumption) ?_
              try simp only [Act.put, List.getElem_toArray, List.getElem_cons_zero, List.getElem_cons_succ, List.setIfInBounds_toArray, List.set_cons_zero, List.set_cons_succ]
              refine wpAnyH_take (i := 8) (v := undef) rfl (by kernel_rfl) (by kernel_rfl) (by kernel_rfl) (fun _ _ _ h => h) (Or.inr ⟨by rfl, rfl⟩) (by assumption) ?_
              try simp only [Act.put, List.getElem_toArray, List.getElem_cons_zero, List.getElem_cons_succ, List.setIfInBounds_toArray, List.set_cons_zero, List.set_cons_succ]
              refine wpAnyH_take (i := 9) (v := undef) rfl (by kernel_rfl) (by kernel_rfl) (by kernel_rfl) (fun _ _ _ h => h) (Or.inr ⟨by rfl, rfl⟩) (by assumption) ?_
              try simp only [Act.put, List.getElem_toArray, List.getElem_cons_zero, List.getElem_cons_succ, List.setIfInBounds_toArray, List.set_cons_zero, List.set_cons_succ]
              refine wpAnyH_take (i := 10) (v := undef) rfl (by kernel_rfl) (by kernel_rfl) (by kernel_rfl) (fun _ _ _ h => h) (Or.inr ⟨by rfl, rfl⟩) (by assumption) ?_
              try simp only [Act.put, List.getElem_toArray, List.getElem_cons_zero, List.getElem_cons_succ, List.setIfInBounds_toArray, List.set_cons_zero, List.set_cons_succ]
              refine wpAnyH_take (i := 11) (v := undef) rfl (by kernel_rfl) (by kernel_rfl) (by kernel_rfl) (fun _ _ _ h => h) (Or.inr ⟨by rfl, rfl⟩) (by assumption) ?_
              try simp only [Act.put, List.getElem_toArray, List.getElem_cons_zero, List.getElem_cons_succ, List.setIfInBounds_toArray, List.set_cons_zero, List.set_cons_succ]
              refine wpAnyH_take (i := 12) (v := undef) rfl (by kernel_rfl) (by kernel_rfl) (by kernel_rfl) (fun _ _ _ h => h) (Or.inr ⟨by rfl, rfl⟩) (by assumption) ?_
              try simp only [Act.put, List.getElem_toArray, List.getElem_cons_zero, List.getElem_cons_succ, List.setIfInBounds_toArray, List.set_cons_zero, List.set_cons_succ]
              refine wpAnyH_take (i := 13) (v := undef) rfl (by kernel_rfl) (by kernel_rfl) (by kernel_rfl) (fun _ _ _ h => h) (Or.inr ⟨by rfl, rfl⟩) (by assumption) ?_
              try simp only [Act.put, List.getElem_toArray, List.getElem_cons_zero, List.getElem_cons_succ, List.setIfInBounds_toArray, List.set_cons_zero, List.set_cons_succ]
              refine wpAnyH_take (i := 14) (v := undef) rfl (by kernel_rfl) (by kernel_rfl) (by kernel_rfl) (fun _ _ _ h => h) (Or.inr ⟨by rfl, rfl⟩) (by assumption) ?_
              try simp only [Act.put, List.getElem_toArray, List.getElem_cons_zero, List.getElem_cons_succ, List.setIfInBounds_toArray, List.set_cons_zero, List.set_cons_succ]
              refine wpAnyH_take (i := 15) (v := undef) rfl (by kernel_rfl) (by kernel_rfl) (by kernel_rfl) (fun _ _ _ h => h) (Or.inr ⟨by rfl, rfl⟩) (by assumption) ?_
              try simp only [Act.put, List.getElem_toArray, List.getElem_cons_zero, List.getElem_cons_succ, List.setIfInBounds_toArray, List.set_cons_zero, List.set_cons_succ]
              refine wpAnyH_take (i := 16) (v := undef) rfl (by kernel_rfl) (by kernel_rfl) (by kernel_rfl) (fun _ _ _ h => h) (Or.inr ⟨by rfl, rfl⟩) (by assumption) ?_
              try simp only [Act.put, List.getElem_toArray, List.getElem_cons_zero, List.getElem_cons_succ, List.setIfInBounds_toArray, List.set_cons_zero, List.set_cons_succ]
              refine wpAnyH_take (i := 17) (v := undef) rfl (by kernel_rfl) (by kernel_rfl) (by kernel_rfl) (fun _ _ _ h => h) (Or.inr ⟨by rfl, rfl⟩) (by assumption) ?_
              try simp only [Act.put, List.getElem_toArray, List.getElem_cons_zero, List.getElem_cons_succ, List.setIfInBounds_toArray, List.set_cons_zero, List.set_cons_succ]
              refine wpAnyH_take (i := 18) (v := undef) rfl (by kernel_rfl) (by kernel_rfl) (by kernel_rfl) (fun _ _ _ h => h) (Or.inr ⟨by rfl, rfl⟩) (by assumption) ?_
              try simp only [Act.put, List.getElem_toArray, List.getElem_cons_zero, List.getElem_cons_succ, List.setIfInBounds_toArray, List.set_cons_zero, List.set_cons_succ]
              refine wpAnyH_take (i := 19) (v := undef) rfl (by kernel_rfl) (by kernel_rfl) (by kernel_rfl) (fun _ _ _ h => h) (Or.inr ⟨by rfl, rfl⟩) (by assumption) ?_
              try simp only [Act.put, List.getElem_toArray, List.getElem_cons_zero, List.getElem_cons_succ, List.setIfInBounds_toArray, List.set_cons_zero, List.set_cons_succ]
              refine wpAnyH_take (i := 20) (v := undef) rfl (by kernel_rfl) (by kernel_rfl) (by kernel_rfl) (fun _ _ _ h => h) (Or.inr ⟨by rfl, rfl⟩) (by assumption) ?_
              try simp only [Act.put, List.getElem_toArray, List.getElem_cons_zero, List.getElem_cons_succ, List.setIfInBounds_toArray, List.set_cons_zero, List.set_cons_succ]
              refine wpAnyH_take (i := 21) (v := undef) rfl (by kernel_rfl) (by kernel_rfl) (by kernel_rfl) (fun _ _ _ h => h) (Or.inr ⟨by rfl, rfl⟩) (by assumption) ?_
              try simp only [Act.put, List.getElem_toArray, List.getElem_cons_zero, List.getElem_cons_succ, List.setIfInBounds_toArray, List.set_cons_zero, List.set_cons_succ]
              refine wpAnyH_take (i := 22) (v := undef) rfl (by kernel_rfl) (by kernel_rfl) (by kernel_rfl) (fun _ _ _ h => h) (Or.inr ⟨by rfl, rfl⟩) (by assumption) ?_
              try simp only [Act.put, List.getElem_toArray, List.getElem_cons_zero, List.getElem_cons_succ, List.setIfInBounds_toArray, List.set_cons_zero, List.set_cons_succ]
              refine wpAnyH_take (i := 23) (v := undef) rfl (by kernel_rfl) (by kernel_rfl) (by kernel_rfl) (fun _ _ _ h => h) (Or.inr ⟨by rfl, rfl⟩) (by assumption) ?_
              try simp only [Act.put, List.getElem_toArray, List.getElem_cons_zero, List.getElem_cons_succ, List.setIfInBounds_toArray, List.set_cons_zero, List.set_cons_succ]
              refine wpAnyH_take (i := 24) (v := undef) rfl (by kernel_rfl) (by kernel_rfl) (by kernel_rfl) (fun _ _ _ h => h) (Or.inr ⟨by rfl, rfl⟩) (by assumption) ?_
              try simp only [Act.put, List.getElem_toArray, List.getElem_cons_zero, List.getElem_cons_succ, List.setIfInBounds_toArray, List.set_cons_zero, List.set_cons_succ]
              refine wpAnyH_take (i := 25) (v := ?tv7) rfl (by kernel_rfl) (by kernel_rfl) (by kernel_rfl) (fun _ _ _ h => h) (Or.inl ⟨by rfl, ?th7⟩) (by assumption) ?tr7
              case th7 => (intro w hSw; (try dsimp only at hSw); go_simp; all_goals (with_reducible rfl))
              simp only [Act.put, List.getElem_toArray, List.getElem_cons_zero, List.getElem_cons_succ, List.setIfInBounds_toArray, List.set_cons_zero, List.set_cons_succ]
              refine wpAnyH_done (by kernel_rfl) ?_ _
              go_wp2_with fail
              go_meet
              exact ⟨by first | rfl | simp, C1⟩
            | true =>
              have hdI : decide ((v : Int) < (u : Int)) = decide (v < u) := by simp
              refine wp_region_held_drew (S := (fun W => W.cell? ⟨M, 0, none⟩ = some (.int .i64 (tx : Int)) ∧ W.cell? ⟨M, 1, none⟩ = some (.int .i64 xk) ∧ W.cell? ⟨M, 2, none⟩ = some (.int .i64 xi) ∧ W.cell? ⟨b, o + k * 3, none⟩ = some (.int .i64 (ty : Int)) ∧ W.cell? ⟨b, o + k * 3 + 1, none⟩ = some (.int .i64 yk) ∧ W.cell? ⟨b, o + k * 3 + 2, none⟩ = some (.int .i64 yi))) (by kernel_rfl) (SB.out _ BD) (fun hHeld => ?_)
              refine wpAnyH_take (i := 0) (v := ?tv8) rfl (by kernel_rfl) (by kernel_rfl) (by kernel_rfl) (fun _ _ _ h => h) (Or.inl ⟨by rfl, ?th8⟩) (by assumption) ?tr8
              case th8 => (intro w hSw; (try dsimp only at hSw); go_simp; all_goals (with_reducible rfl))
              simp only [Act.put, List.getElem_toArray, List.getElem_cons_zero, List.setIfInBounds_toArray, List.set_cons_zero, List.set_cons_succ]
              refine wpAnyH_take (i := 1) (v := ?tv9) rfl (by kernel_rfl) (by kernel_rfl) (by kernel_rfl) (fun _ _ _ h => h) (Or.inl ⟨by rfl, ?th9⟩) (by assumption) ?tr9
              case th9 => (intro w hSw; (try dsimp only at hSw); go_simp; all_goals (with_reducible rfl))
              simp only [Act.put, List.getElem_toArray, List.getElem_cons_zero, List.getElem_cons_succ, List.setIfInBounds_toArray, List.set_cons_zero, List.set_cons_succ]
              refine wpAnyH_take (i := 2) (v := ?tv10) rfl (by kernel_rfl) (by kernel_rfl) (by kernel_rfl) (fun _ _ _ h => h) (Or.inl ⟨by rfl, ?th10⟩) (by assumption) ?tr10
              case th10 => (intro w hSw; (try dsimp only at hSw); go_simp; all_goals (with_reducible rfl))
              simp only [Act.put, List.getElem_toArray, List.getElem_cons_zero, List.getElem_cons_succ, List.setIfInBounds_toArray, List.set_cons_zero, List.set_cons_succ]
              refine wpAnyH_take (i := 3) (v := ?tv11) rfl (by kernel_rfl) (by kernel_rfl) (by kernel_rfl) (fun _ _ _ h => h) (Or.inl ⟨by rfl, ?th11⟩) (by assumption) ?tr11
              case th11 => (intro w hSw; (try dsimp only at hSw); go_simp; all_goals (with_reducible rfl))
              simp only [Act.put, List.getElem_toArray, List.getElem_cons_zero, List.getElem_cons_succ, List.setIfInBounds_toArray, List.set_cons_zero, List.set_cons_succ]
              refine wpAnyH_take (i := 4) (v := ?tv12) rfl (by kernel_rfl) (by kernel_rfl) (by kernel_rfl) (fun _ _ _ h => h) (Or.inl ⟨by rfl, ?th12⟩) (by assumption) ?tr12
              case th12 => (intro w hSw; (try dsimp only at hSw); go_simp; all_goals (with_reducible rfl))
              simp only [Act.put, List.getElem_toArray, List.getElem_cons_zero, List.getElem_cons_succ, List.setIfInBounds_toArray, List.set_cons_zero, List.set_cons_succ]
              refine wpAnyH_ready (rs := [5]) (by kernel_rfl) (by simp) ?_
              refine AllReadyH.cons rfl (fun K hK => ?_) AllReadyH.nil
              go_simp
              refine (KCL.out _).mono ?_
              rintro r v1 ⟨rfl, hv1⟩
              have C1 : Below wr.heap.size wr v1 := below_tr BD hv1
              clear hv1
              refine hK.out _ _ (SB.out _ C1) (fun hHeld => ?_)
              clear hK K
              try simp only [Act.put, List.getElem_toArray, List.getElem_cons_zero, List.getElem_cons_succ, List.setIfInBounds_toArray, List.set_cons_zero, List.set_cons_succ]
              refine wpAnyH_take (i := 6) (v := ?tv13) rfl (by kernel_rfl) (by kernel_rfl) (by kernel_rfl) (fun _ _ _ h => h) (Or.inl ⟨by rfl, ?th13⟩) (by assumption) ?tr13
              case th13 => (intro w hSw; (try dsimp only at hSw); go_simp; all_goals (with_reducible rfl))
              simp only [Act.put, List.getElem_toArray, List.getElem_cons_zero, List.getElem_cons_succ, List.setIfInBounds_toArray, List.set_cons_zero, List.set_cons_succ]
              refine wpAnyH_take (i := 7) (v := ?tv14) rfl (by kernel_rfl) (by kernel_rfl) (by kernel_rfl) (fun _ _ _ h => h) (Or.inl ⟨by rfl, ?th14⟩) (by assumption) ?tr14
              case th14 => (intro w hSw; (try dsimp only at hSw); go_simp; all_goals (with_reducible rfl))
              simp only [Act.put, List.getElem_toArray, List.getElem_cons_zero, List.getElem_cons_succ, List.setIfInBounds_toArray, List.set_cons_zero, List.set_cons_succ]
              refine wpAnyH_take (i := 8) (v := ?tv15) rfl (by kernel_rfl) (by kernel_rfl) (by kernel_rfl) (fun _ _ _ h => h) (Or.inl ⟨by rfl, ?th15⟩) (by assumption) ?tr15
              case th15 => (intro w hSw; (try dsimp only at hSw); go_simp; all_goals (with_reducible rfl))
              simp only [Act.put, List.getElem_toArray, List.getElem_cons_zero, List.getElem_cons_succ, List.setIfInBounds_toArray, List.set_cons_zero, List.set_cons_succ]
              refine wpAnyH_take (i := 9) (v := ?tv16) rfl (by kernel_rfl) (by kernel_rfl) (by kernel_rfl) (fun _ _ _ h => h) (Or.inl ⟨by rfl, ?th16⟩) (by assumption) ?tr16
              case th16 => (intro w hSw; (try dsimp only at hSw); go_simp; all_goals (with_reducible rfl))
              simp only [Act.put, List.getElem_toArray, List.getElem_cons_zero, List.getElem_cons_succ, List.setIfInBounds_toArray, List.set_cons_zero, List.set_cons_succ]
              refine wpAnyH_take (i := 10) (v := ?tv17) rfl (by kernel_rfl) (by kernel_rfl) (by kernel_rfl) (fun _ _ _ h => h) (Or.inl ⟨by rfl, ?th17⟩) (by assumption) ?tr17
              case th17 => (intro w hSw; (try dsimp only at hSw); go_simp; all_goals (with_reducible rfl))
              simp only [Act.put, List.getElem_toArray, List.getElem_cons_zero, List.getElem_cons_succ, List.setIfInBounds_toArray, List.set_cons_zero, List.set_cons_succ]
              refine wpAnyH_take (i := 11) (v := ?tv18) rfl (by kernel_rfl) (by kernel_rfl) (by kernel_rfl) (fun _ _ _ h => h) (Or.inl ⟨by rfl, ?th18⟩) (by assumption) ?tr18
              case th18 => (intro w hSw; (try dsimp only at hSw); go_simp; all_goals (with_reducible rfl))
              simp only [Act.put, List.getElem_toArray, List.getElem_cons_zero, List.getElem_cons_succ, List.setIfInBounds_toArray, List.set_cons_zero, List.set_cons_succ]
              refine wpAnyH_take (i := 14) (v := ?tv19) rfl (by kernel_rfl) (by kernel_rfl) (by kernel_rfl) (fun _ _ _ h => h) (Or.inl ⟨by rfl, ?th19⟩) (by assumption) ?tr19
              case th19 => (intro w hSw; (try dsimp only at hSw); go_simp; all_goals (with_reducible rfl))
              simp only [Act.put, List.getElem_toArray, List.getElem_cons_zero, List.getElem_cons_succ, List.setIfInBounds_toArray, List.set_cons_zero, List.set_cons_succ]
              refine wpAnyH_take (i := 15) (v := ?tv20) rfl (by kernel_rfl) (by kernel_rfl) (by kernel_rfl) (fun _ _ _ h => h) (Or.inl ⟨by rfl, ?th20⟩) (by assumption) ?tr20
              case th20 => (intro w hSw; (try dsimp only at hSw); go_simp; all_goals (with_reducible rfl))
              simp only [Act.put, List.getElem_toArray, List.getElem_cons_zero, List.getElem_cons_succ, List.setIfInBounds_toArray, List.set_cons_zero, List.set_cons_succ]
              refine wpAnyH_take (i := 16) (v := ?tv21) rfl (by kernel_rfl) (by kernel_rfl) (by kernel_rfl) (fun _ _ _ h => h) (Or.inl ⟨by rfl, ?th21⟩) (by assumption) ?tr21
              case th21 => (intro w hSw; (try dsimp only at hSw); go_simp; all_goals (with_reducible rfl))
              simp only [Act.put, List.getElem_toArray, List.getElem_cons_zero, List.getElem_cons_succ, List.setIfInBounds_toArray, List.set_cons_zero, List.set_cons_succ]
              refine wpAnyH_take (i := 17) (v := ?tv22) rfl (by kernel_rfl) (by kernel_rfl) (by kernel_rfl) (fun _ _ _ h => h) (Or.inl ⟨by rfl, ?th22⟩) (by assumption) ?tr22
              case th22 => (intro w hSw; (try dsimp only at hSw); go_simp; all_goals (with_reducible rfl))
              simp only [Act.put, List.getElem_toArray, List.getElem_cons_zero, List.getElem_cons_succ, List.setIfInBounds_toArray, List.set_cons_zero, List.set_cons_succ]
              refine wpAnyH_take (i := 18) (v := ?tv23) rfl (by kernel_rfl) (by kernel_rfl) (by kernel_rfl) (fun _ _ _ h => h) (Or.inl ⟨by rfl, ?th23⟩) (by assumption) ?tr23
              case th23 => (intro w hSw; (try dsimp only at hSw); go_simp; all_goals (with_reducible rfl))
              simp only [Act.put, List.getElem_toArray, List.getElem_cons_zero, List.getElem_cons_succ, List.setIfInBounds_toArray, List.set_cons_zero, List.set_cons_succ]
              refine wpAnyH_take (i := 19) (v := ?tv24) rfl (by kernel_rfl) (by kernel_rfl) (by kernel_rfl) (fun _ _ _ h => h) (Or.inl ⟨by rfl, ?th24⟩) (by assumption) ?tr24
              case th24 => (intro w hSw; (try dsimp only at hSw); go_simp; all_goals (with_reducible rfl))
              simp only [Act.put, List.getElem_toArray, List.getElem_cons_zero, List.getElem_cons_succ, List.setIfInBounds_toArray, List.set_cons_zero, List.set_cons_succ]
              refine wpAnyH_take (i := 20) (v := ?tv25) rfl (by kernel_rfl) (by kernel_rfl) (by kernel_rfl) (fun _ _ _ h => h) (Or.inl ⟨by rfl, ?th25⟩) (by assumption) ?tr25
              case th25 => (intro w hSw; (try dsimp only at hSw); go_simp; all_goals (with_reducible rfl))
              simp only [Act.put, List.getElem_toArray, List.getElem_cons_zero, List.getElem_cons_succ, List.setIfInBounds_toArray, List.set_cons_zero, List.set_cons_succ]
              refine wpAnyH_take (i := 21) (v := ?tv26) rfl (by kernel_rfl) (by kernel_rfl) (by kernel_rfl) (fun _ _ _ h => h) (Or.inl ⟨by rfl, ?th26⟩) (by assumption) ?tr26
              case th26 => (intro w hSw; (try dsimp only at hSw); go_simp; all_goals (with_reducible rfl))
              simp only [Act.put, List.getElem_toArray, List.getElem_cons_zero, List.getElem_cons_succ, List.setIfInBounds_toArray, List.set_cons_zero, List.set_cons_succ]
              refine wpAnyH_ready (rs := [12]) (by kernel_rfl) (by simp) ?_
              refine AllReadyH.cons rfl (fun K hK => ?_) AllReadyH.nil
              go_simp
              refine (KW1'.out _ (Q1.out _ C1)).mono ?_
              rintro r v2 ⟨rfl, hv2⟩
              have C2 : Below wr.heap.size wr v2 := below_tr C1 hv2
              clear hv2
              refine hK.out _ _ (SB.out _ C2) (fun hHeld => ?_)
              clear hK K
              try simp only [Act.put, List.getElem_toArray, List.getElem_cons_zero, List.getElem_cons_succ, List.setIfInBounds_toArray, List.set_cons_zero, List.set_cons_succ]
              refine wpAnyH_ready (rs := [13]) (by kernel_rfl) (by simp) ?_
              refine AllReadyH.cons rfl (fun K hK => ?_) AllReadyH.nil
              go_simp
              refine (KN1'.out _ (Q2.out _ C2)).mono ?_
              rintro r v3 ⟨rfl, hv3⟩
              have C3 : Below wr.heap.size wr v3 := below_tr C2 hv3
              clear hv3
              refine hK.out _ _ (SB.out _ C3) (fun hHeld => ?_)
              clear hK K
              try simp only [Act.put, List.getElem_toArray, List.getElem_cons_zero, List.getElem_cons_succ, List.setIfInBounds_toArray, List.set_cons_zero, List.set_cons_succ]
              refine wpAnyH_ready (rs := [22]) (by kernel_rfl) (by simp) ?_
              refine AllReadyH.cons rfl (fun K hK => ?_) AllReadyH.nil
              go_simp
              refine (KW2.out _ (Q1.out _ C3)).mono ?_
              rintro r v4 ⟨rfl, hv4⟩
              have C4 : Below wr.heap.size wr v4 := below_tr C3 hv4
              clear hv4
              refine hK.out _ _ (SB.out _ C4) (fun hHeld => ?_)
              clear hK K
              try simp only [Act.put, List.getElem_toArray, List.getElem_cons_zero, List.getElem_cons_succ, List.setIfInBounds_toArray, List.set_cons_zero, List.set_cons_succ]
              refine wpAnyH_ready (rs := [23]) (by kernel_rfl) (by simp) ?_
              refine AllReadyH.cons rfl (fun K hK => ?_) AllReadyH.nil
              go_simp
              refine (KN2.out _ (Q2.out _ C4)).mono ?_
              rintro r v5 ⟨rfl, hv5⟩
              have C5 : Below wr.heap.size wr v5 := below_tr C4 hv5
              clear hv5
              refine hK.out _ _ (SB.out _ C5) (fun hHeld => ?_)
              clear hK K
              try simp only [Act.put, List.getElem_toArray, List.getElem_cons_zero, List.getElem_cons_succ, List.setIfInBounds_toArray, List.set_cons_zero, List.set_cons_succ]
              refine wpAnyH_take (i := 24) (v := ?tv27) rfl (by kernel_rfl) (by kernel_rfl) (by kernel_rfl) (fun _ _ _ h => h) (Or.inl ⟨by rfl, ?th27⟩) (by assumption) ?tr27
              case th27 => (intro w hSw; (try dsimp only at hSw); go_simp; all_goals (with_reducible rfl))
              simp only [Act.put, List.getElem_toArray, List.getElem_cons_zero, List.getElem_cons_succ, List.setIfInBounds_toArray, List.set_cons_zero, List.set_cons_succ]
              refine wpAnyH_take (i := 25) (v := ?tv28) rfl (by kernel_rfl) (by kernel_rfl) (by kernel_rfl) (fun _ _ _ h => h) (Or.inl ⟨by rfl, ?th28⟩) (by assumption) ?tr28
              case th28 => (intro w hSw; (try dsimp only at hSw); go_simp; all_goals (with_reducible rfl))
              simp only [Act.put, List.getElem_toArray, List.getElem_cons_zero, List.getElem_cons_succ, List.setIfInBounds_toArray, List.set_cons_zero, List.set_cons_succ]
              refine wpAnyH_done (by kernel_rfl) ?_ _
              go_wp2_with fail
              go_meet
              exact ⟨by first | rfl | simp, C5⟩
          case rest =>
            obtain ⟨rfl, hB⟩ := hcut
            have A5 := hid (fin.out _ hB)
            clear fin SB BD hB KCL KW2 KN2 KN1' KW1' Q1 Q2
            cases hT : (C && decide (v < u)) with
            | true =>
              have HN : Hid (Z = false) := HZ2.out.trans (HTN.out (by rw [HT.out]; exact hT))
              clear HT HTN hF hT
              go_wp2_with fail
              go_ret
              exact ⟨by rw [HN.out]; rfl, A5.out.2⟩
            | false =>
              have hF2 : Hid (Se.Free X (Rn.img X Y) i (k + 1)) := hF.out.next (by rw [HT.out]; exact hT)
              clear HT HTN hF hT
              go_wp2_with fail
              go_roundw
              case rel => exact ⟨k + 1, by omega, by omega, by go_num, hF2, A5⟩
              case measure => simp [intOf]; omega
end Go.Proofs.Ytlalpahfoafhoab.PSee
