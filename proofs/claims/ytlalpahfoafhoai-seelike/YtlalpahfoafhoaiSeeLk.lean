/- quirkeep.SeeLike, walked: it answers true, and nothing that was there has turned. Conditions: how many operations there are, that the capacity is no less. -/
import Derived.Test.YtlalpahfoafhoaiRunLik
import Derived.Test.YtlalpahfoafhoaiRunTurn
import Derived.Test.YtlalpahfoafhoaiSeeAlk
import Derived.Test.YtlalpahfoafhoaiSeeIdx
import Derived.BigRegion
namespace Go.Proofs.Ytlalpahfoafhoai.PSee
open Go Go.RowKit PPool PGraph PRun
set_option maxRecDepth 100000

def kX : List Rn.Op := [⟨0, 2, 1⟩, ⟨1, 1, 1⟩]
def kY : List Rn.Op := [⟨1, 1, 1⟩, ⟨0, 2, 1⟩]
theorem kX_same : alikeB kX kX = true ∧ alikeE kX kX = 0 := by decide +kernel
theorem kX_other : alikeB kX kY = false ∧ alikeE kX kY = 0 := by decide +kernel
set_option maxHeartbeats 400000 in
theorem isAbort_any (w : World) (o : Rn.Op) :
    Calls Try.prog 21 #[.agg #[.int .i64 o.x, .int .i64 o.k, .int .i64 o.i]] w fun e w' => e = .returned (.bool (decide (o.k = 4))) ∧ Below w.heap.size w w' := by
  have hb := fun o => hid (bx w o)
  have hd : (o.k == 4) = decide (o.k = 4) := by by_cases h : o.k = 4 <;> simp [h]
  obtain ⟨ox, ok, oi⟩ := o
  simp only at hd ⊢
  go_enter Try.func21, Try.ntmps21
  go_wp2_with fail
  go_ret
  exact ⟨by first | rw [hd] | rfl, (hb _).out⟩
/-- The three cells of an operation in a row of one's own. -/
theorem own_spot {w : World} {base g n c : Nat} {X : List Rn.Op} (h : OwnOp w base (.slice (some ⟨g, 0, none⟩) n c) X) {k : Nat} (hk : k < X.length) :
    (∃ v, w.cell? ⟨g, k * 3, none⟩ = some v) ∧ (∃ v, w.cell? ⟨g, k * 3 + 1, none⟩ = some v) ∧ (∃ v, w.cell? ⟨g, k * 3 + 2, none⟩ = some v) ∧ ∀ i, w.frozen? ⟨g, i, none⟩ = false := by
  obtain ⟨x, hx⟩ : ∃ x, X[k]? = some x := ⟨_, List.getElem?_eq_getElem hk⟩
  obtain ⟨d1, d2, d3⟩ := h.cells hx
  exact ⟨⟨_, d1⟩, ⟨_, d2⟩, ⟨_, d3⟩, h.fz⟩
/-- How all stands while neighbours change places. -/
structure LkAt (w W : World) (base g cg : Nat) (X Y : List Rn.Op) : Prop where
  own : OwnOp W base (.slice (some ⟨g, 0, none⟩) X.length cg) Y
  ok : Rn.check Y = 0
  len : Y.length = X.length
  bel : Below w.heap.size w W
  lo : w.heap.size ≤ base

theorem LkAt.drew {w W : World} {base g cg : Nat} {X Y : List Rn.Op} (h : LkAt w W base g cg X Y) : LkAt w W.drew base g cg X Y := ⟨h.own.keep fun _ _ => rfl, h.ok, h.len, h.bel.drew, h.lo⟩
/-- The world behind the two stores. -/
def six (W : World) (g t : Nat) (x y : Rn.Op) : World := (((((W.setCell ⟨g, t * 3, none⟩ (.int .i64 y.x)).setCell ⟨g, t * 3 + 1, none⟩ (.int .i64 y.k)).setCell ⟨g, t * 3 + 2, none⟩ (.int .i64 y.i)).setCell ⟨g, (t + 1) * 3, none⟩ (.int .i64 x.x)).setCell ⟨g, (t + 1) * 3 + 1, none⟩ (.int .i64 x.k)).setCell ⟨g, (t + 1) * 3 + 2, none⟩ (.int .i64 x.i)
theorem LkAt.swap {w W : World} {base g cg : Nat} {X Y : List Rn.Op} (h : LkAt w W base g cg X Y) {t : Nat} {x y : Rn.Op} (hx : Y[t]? = some x) (hy : Y[t + 1]? = some y) (hne : x.x ≠ y.x) : LkAt w (six W g t x y) base g cg X (Rn.swp Y t x y) := by
  have hl := (List.getElem?_eq_some_iff.1 hy).1
  have O10 : OwnOp (((W.setCell ⟨g, t * 3, none⟩ (.int .i64 y.x)).setCell ⟨g, t * 3 + 1, none⟩ (.int .i64 y.k)).setCell ⟨g, t * 3 + 2, none⟩ (.int .i64 y.i)) _ _ _ := h.own.set t (by omega) y
  have O11 : OwnOp (six W g t x y) _ _ (Rn.swp Y t x y) := O10.set (t + 1) (by rw [List.length_set]; omega) x
  have gw : w.heap.size ≤ g := Nat.le_trans h.lo h.own.ge.1
  refine ⟨O11, Rn.swp_check h.ok hx hy hne, by rw [Rn.swp_len]; exact h.len, ?_, h.lo⟩
  exact (((((h.bel.setCell (p := ⟨g, t * 3, none⟩) gw _).setCell (p := ⟨g, t * 3 + 1, none⟩) gw _).setCell (p := ⟨g, t * 3 + 2, none⟩) gw _).setCell (p := ⟨g, (t + 1) * 3, none⟩) gw _).setCell (p := ⟨g, (t + 1) * 3 + 1, none⟩) gw _).setCell (p := ⟨g, (t + 1) * 3 + 2, none⟩) gw _

set_option maxHeartbeats 8000000 in
theorem seelike_walk (w : World) (a : Option Addr) (c : Nat) (X : List Rn.Op) (a' : Option Addr) (c' : Nat) (Z : List Int) (h : OpAt w a X) (hl : X.length * 24 ≤ 140737488351232) (hcap : X.length ≤ c) (hZ : RowAt (Value.int .i64) w a' Z) (_ : Z.length ≤ c') (_ : ∀ y ∈ Z, (Lit.int .i64 y).wf = true) (hZl : Z.length ≤ 9223372036854775807) :
    Calls Try.prog 6 #[.slice a X.length c, .slice a' Z.length c'] w fun e w' => e = .returned (.bool true) ∧ Below w.heap.size w w' := by
  have H := hid h
  have HZ := hid hZ
  have KO := hid fun W x k i => op_any W x k i
  have K1 := hid fun W a b h1 h2 => alike_any W a b 2 2 kX kX h1 h2 (by decide) (by decide) (by decide) (by decide)
  rw [kX_same.1, kX_same.2] at K1
  have K2 := hid fun W a b h1 h2 => alike_any W a b 2 2 kX kY h1 h2 (by decide) (by decide) (by decide) (by decide)
  rw [kX_other.1, kX_other.2] at K2
  have KC := hid fun W h => check_any W a c X h (by omega)
  clear h hZ
  go_enter Try.func6, Try.ntmps6
  go_wp2_with fail
  refine (KO.out w 0 2 1).mono ?_
  rintro r w1 ⟨rfl, hb1⟩
  have B1 := hid hb1
  clear hb1
  go_wp2_with fail
  refine (KO.out w1 1 1 1).mono ?_
  rintro r w2 ⟨rfl, hb2⟩
  have B2 : Hid (Below w.heap.size w w2) := below_tr B1.out hb2
  clear hb2 B1 KO
  obtain ⟨M, hM⟩ : ∃ M, M = w2.heap.size := ⟨_, rfl⟩
  have P2 : ∀ T, Hid (ArrAt (w2.alloc (.cells #[.int .i64 0, .int .i64 2, .int .i64 1, .int .i64 1, .int .i64 1, .int .i64 1] T)) M #[.int .i64 0, .int .i64 2, .int .i64 1, .int .i64 1, .int .i64 1, .int .i64 1] ∧ OpAt (w2.alloc (.cells #[.int .i64 0, .int .i64 2, .int .i64 1, .int .i64 1, .int .i64 1, .int .i64 1] T)) (some ⟨M, 0, none⟩) kX ∧ Below w.heap.size w (w2.alloc (.cells #[.int .i64 0, .int .i64 2, .int .i64 1, .int .i64 1, .int .i64 1, .int .i64 1] T))) := fun T => by
    rw [hM]; exact ⟨ArrAt.new w2 _ T, row_at w2 kX _ T rfl, below_tr B2.out (bx _ _)⟩
  go_wp2_with fail
  rw [← hM]
  refine (K1.out _ _ _ (P2 _).out.2.1 (P2 _).out.2.1).mono ?_
  rintro r w3 ⟨rfl, hb3⟩
  have P3 : Hid (ArrAt w3 M #[.int .i64 0, .int .i64 2, .int .i64 1, .int .i64 1, .int .i64 1, .int .i64 1] ∧ OpAt w3 (some ⟨M, 0, none⟩) kX ∧ Below w.heap.size w w3) := ⟨(P2 _).out.1.below hb3, (P2 _).out.2.1.below hb3, below_tr (P2 _).out.2.2 hb3⟩
  clear hb3 P2 K1 hM B2
  have SB : Hid (∀ W, Below w3.heap.size w3 W → W.cell? ⟨M, 0, none⟩ = some (.int .i64 0) ∧ W.cell? ⟨M, 1, none⟩ = some (.int .i64 2) ∧ W.cell? ⟨M, 2, none⟩ = some (.int .i64 1) ∧ W.cell? ⟨M, 3, none⟩ = some (.int .i64 1) ∧ W.cell? ⟨M, 4, none⟩ = some (.int .i64 1) ∧ W.cell? ⟨M, 5, none⟩ = some (.int .i64 1)) := fun W hW =>
    ⟨(P3.out.1.below hW).cell rfl, (P3.out.1.below hW).cell rfl, (P3.out.1.below hW).cell rfl, (P3.out.1.below hW).cell rfl, (P3.out.1.below hW).cell rfl, (P3.out.1.below hW).cell rfl⟩
  go_upto_region 5 with fail
  go_region_held3 (fun W => W.cell? ⟨M, 0, none⟩ = some (.int .i64 0) ∧ W.cell? ⟨M, 1, none⟩ = some (.int .i64 2) ∧ W.cell? ⟨M, 2, none⟩ = some (.int .i64 1) ∧ W.cell? ⟨M, 3, none⟩ = some (.int .i64 1) ∧ W.cell? ⟨M, 4, none⟩ = some (.int .i64 1) ∧ W.cell? ⟨M, 5, none⟩ = some (.int .i64 1))
    ((refine SB.out _ ?_; first | exact B4.out | repeat (first | exact Below.refl _ _ | refine Below.drew ?_ | refine Below.alloc ?_ (Nat.le_refl _) _)))
    ((go_at_call 19; refine (K2.out _ _ _ ((P3.out.2.1.drew).below (bx _ _)) (row_at _ kY _ _ rfl)).mono ?_; rintro r w4 ⟨rfl, hb4⟩; have B4 : Hid (Below w3.heap.size w3 w4) := below_tr (Below.refl _ _).drew (below_tr (bx _ _) hb4); clear hb4))
  have B5 : Hid (Below w.heap.size w w4) := below_tr P3.out.2.2 B4.out
  clear P3 SB B4 K2
  go_wp2_with fail
  refine (KC.out _ (H.out.below B5.out)).mono ?_
  rintro r w5 ⟨rfl, hb5⟩
  have B6 : Hid (Below w.heap.size w w5) := below_tr B5.out hb5
  clear hb5 B5 KC
  by_cases hv : Rn.check X = 0
  rotate_left
  · generalize Rn.check X = v at *
    have hv0 : (v != 0) = true := by simpa using hv
    clear hv
    go_wp2_with fail
    go_ret
    exact ⟨rfl, B6.out⟩
  rw [hv]
  have HV := hid hv
  have hl200 := (Rn.check_zero hv).1
  clear hv
  have KF := hid fun W h => hasO_any W a c X 21 #[] (fun o => decide (o.k = 4)) (fun _ _ => rfl) (fun W' o _ _ => by rw [Array.append_empty]; exact isAbort_any W' o) h (by omega)
  have HS : Hid (X.any (fun o => decide (o.k = 4)) = false → Se.Still X) := fun h o ho hk => by
    have : X.any (fun o => decide (o.k = 4)) = true := List.any_eq_true.2 ⟨o, ho, by show decide (o.k = 4) = true; exact decide_eq_true hk⟩
    rw [h] at this; cases this
  generalize X.any (fun o => decide (o.k = 4)) = F at *
  go_wp2_with fail
  refine (KF.out _ (H.out.below B6.out)).mono ?_
  rintro r w6 ⟨rfl, hb6⟩
  have B7 : Hid (Below w.heap.size w w6) := below_tr B6.out hb6
  clear hb6 B6 KF
  cases F with
  | true =>
    go_wp2_with fail
    go_ret
    exact ⟨rfl, B7.out⟩
  | false =>
    have HS2 : Hid (Se.Still X) := HS.out rfl
    clear HS
    by_cases h2 : X.length < 2
    · have h2I : (X.length : Int) < 2 := by omega
      go_wp2_with fail
      go_ret
      exact ⟨rfl, B7.out⟩
    have h2I : ¬ (X.length : Int) < 2 := by omega
    have KN := hid fun W h => clone_any W a c X h (by omega)
    have KR := hid fun n W => rest_any n ((X.length : Int) - 1) W (by omega) (by omega)
    go_wp2_with fail
    refine (KN.out _ (H.out.below B7.out)).mono ?_
    rintro r w7 ⟨v7, rfl, ho7, hb7⟩
    obtain ⟨g, cg, rfl, hcg⟩ := ho7.some (by omega)
    have A7 : Hid (LkAt w w7 w6.heap.size g cg X X) := ⟨ho7, HV.out, rfl, below_tr B7.out hb7, B7.out.size⟩
    have hgw : w.heap.size ≤ g := Nat.le_trans B7.out.size ho7.ge.1
    clear hb7 ho7 KN B7
    obtain ⟨base, hbase⟩ : ∃ b, b = w6.heap.size := ⟨_, rfl⟩
    rw [← hbase] at A7
    clear hbase
    go_wp2_with fail
    go_loopw [12, 13, 66] (fun _ _ i wr => ∃ (k : Nat) (Y : List Rn.Op), k ≤ Z.length ∧ i = .int .i64 (k : Int) ∧ Hid (LkAt w wr base g cg X Y)) (fun _ _ i _ => Z.length - (intOf i).toNat)
    case atStart => exact ⟨0, X, Nat.zero_le _, rfl, A7⟩
    case round =>
      clear A7
      obtain ⟨k, Y, hk, rfl, hA⟩ := hrel
      by_cases hlt : k < Z.length
      rotate_left
      · obtain rfl : k = Z.length := by omega
        have hYl := hA.out.len
        have f1 : likeB X Y = Rn.like X Y := by unfold likeB; rw [if_pos HV.out, if_pos hA.out.ok]
        have f2 : likeE X Y = 0 := by unfold likeE; rw [if_pos HV.out, hA.out.ok]
        have f3 : alikeB X Y = Se.alike X Y := by unfold alikeB; rw [if_pos HV.out, if_pos hA.out.ok]
        have f4 : alikeE X Y = 0 := by unfold alikeE; rw [if_pos HV.out, hA.out.ok]
        have KL := hid fun W h1 h2 => like_any W a (some ⟨g, 0, none⟩) c cg X Y h1 h2 (by omega) (by omega) hcap
        have KA := hid fun W h1 h2 => alike_any W a (some ⟨g, 0, none⟩) c cg X Y h1 h2 (by omega) (by omega) hcap (by omega)
        rw [f1, f2, hYl] at KL
        rw [f3, f4, hYl] at KA
        have HI : Hid (Rn.like X Y = true → Se.alike X Y = true) := fun h => Se.like_alike HV.out h HS2.out
        obtain ⟨I, hI⟩ : ∃ I, I = Rn.like X Y := ⟨_, rfl⟩
        obtain ⟨J, hJ⟩ : ∃ J, J = Se.alike X Y := ⟨_, rfl⟩
        rw [← hI] at KL HI
        rw [← hJ] at KA HI
        have P9 : Hid (OpAt wr (some ⟨g, 0, none⟩) Y) := own_op hA.out.own
        have B9 := hid hA.out.bel
        clear hI hJ f1 f2 f3 f4 hA hYl hlt hk
        go_wp2_with fail
        refine (KL.out _ (H.out.below B9.out) P9.out).mono ?_
        rintro r w9 ⟨rfl, hb9⟩
        have B10 : Hid (Below w.heap.size w w9) := below_tr B9.out hb9
        have P10 : Hid (OpAt w9 (some ⟨g, 0, none⟩) Y) := P9.out.below hb9
        clear hb9 B9 P9 KL
        go_wp2_with fail
        refine (KA.out _ (H.out.below B10.out) P10.out).mono ?_
        rintro r w10 ⟨rfl, hb10⟩
        have B11 : Hid (Below w.heap.size w w10) := below_tr B10.out hb10
        clear hb10 B10 P10 KA
        cases I with
        | false =>
          go_wp2_with fail
          go_ret
          exact ⟨rfl, B11.out⟩
        | true =>
          obtain rfl : J = true := HI.out rfl
          go_wp2_with fail
          go_ret
          exact ⟨rfl, B11.out⟩
      obtain ⟨z, hz⟩ : ∃ z, Z[k]? = some z := ⟨_, List.getElem?_eq_getElem hlt⟩
      obtain ⟨b', o', rfl, d1⟩ := (HZ.out.below hA.out.bel) k z hz
      have k0 : (0 : Int) ≤ (k : Int) := by omega
      have k1 : (k : Int) < (Z.length : Int) := by omega
      obtain ⟨t, ht⟩ : ∃ t : Nat, z % ((X.length : Int) - 1) = (t : Int) := ⟨(z % ((X.length : Int) - 1)).toNat, by have := Int.emod_nonneg z (show (X.length : Int) - 1 ≠ 0 by omega); omega⟩
      have htl : t + 1 < X.length := by have := Int.emod_lt_of_pos z (show 0 < (X.length : Int) - 1 by omega); omega
      have KR := hid fun W => KR.out z W
      rw [ht] at KR
      clear ht hz
      have hYl := hA.out.len
      obtain ⟨x, hx⟩ : ∃ x, Y[t]? = some x := ⟨_, List.getElem?_eq_getElem (by omega)⟩
      obtain ⟨y, hy⟩ : ∃ y, Y[t + 1]? = some y := ⟨_, List.getElem?_eq_getElem (by omega)⟩
      obtain ⟨x1, x2, x3⟩ := hA.out.own.cells hx
      obtain ⟨y1, y2, y3⟩ := hA.out.own.cells hy
      have t0 : (0 : Int) ≤ (t : Int) := by omega
      have t1 : (t : Int) < (X.length : Int) := by omega
      have t2 : (t : Int) + 1 < (X.length : Int) := by omega
      have t3 : (0 : Int) ≤ (t : Int) + 1 := by omega
      have HX := hid hx
      have HY := hid hy
      clear hx hy
      obtain ⟨xx, xk, xi⟩ := x
      obtain ⟨yx, yk, yi⟩ := y
      simp only at x1 x2 x3 y1 y2 y3
      go_wp2_with fail
      refine (KR.out _).mono ?_
      rintro r w8 ⟨rfl, rfl⟩
      clear KR
      by_cases hxy : xx = yx
      · have hB : (xx != yx) = false := by simpa using hxy
        have A8 : Hid (LkAt w w8.drew base g cg X Y) := hA.out.drew
        clear hA hxy
        go_wp2_with fail
        go_region
        all_goals
          go_wp2_with fail
          go_roundw
          case rel => exact ⟨k + 1, Y, by omega, by go_num, A8⟩
          case measure => simp [intOf]; omega
      · have hB : (xx != yx) = true := by simpa using hxy
        obtain ⟨W8, hW8⟩ : ∃ W8, W8 = w8.drew := ⟨_, rfl⟩
        have A8 : Hid (LkAt w W8 base g cg X Y) := by rw [hW8]; exact hA.out.drew
        have A9 : Hid (LkAt w (six W8 g t ⟨xx, xk, xi⟩ ⟨yx, yk, yi⟩).drew base g cg X (Rn.swp Y t ⟨xx, xk, xi⟩ ⟨yx, yk, yi⟩)) := (A8.out.swap HX.out HY.out hxy).drew
        clear hA hxy
        go_wp2_with fail
        go_region
        all_goals
          go_upto_region 16 with fail
          rw [← hW8]
          clear hW8 x1 x2 x3 y1 y2 y3 d1
          obtain ⟨x1, x2, x3⟩ := A8.out.own.cells HX.out
          obtain ⟨y1, y2, y3⟩ := A8.out.own.cells HY.out
          have s4 := A8.out.own.fz
          have O10 : OwnOp (((W8.setCell ⟨g, t * 3, none⟩ (.int .i64 yx)).setCell ⟨g, t * 3 + 1, none⟩ (.int .i64 yk)).setCell ⟨g, t * 3 + 2, none⟩ (.int .i64 yi)) _ _ _ := A8.out.own.set t (by omega) ⟨yx, yk, yi⟩
          obtain ⟨⟨s5, t5⟩, ⟨s6, t6⟩, ⟨s7, t7⟩, t8⟩ := own_spot O10 (k := t + 1) (by rw [List.length_set]; omega)
          simp only at x1 x2 x3 y1 y2 y3
          clear O10 HX HY A8
          go_region
          all_goals
            go_wp2_with fail
            go_roundw
            case rel => exact ⟨k + 1, _, by omega, by go_num, A9⟩
            case measure => simp [intOf]; omega
end Go.Proofs.Ytlalpahfoafhoai.PSee
