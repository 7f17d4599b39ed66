/- quirref.SameLocks, walked: are two tables one? Conditions: tables that lie where their slices say, of lengths that an int holds. -/
import Derived.Test.YtjoaedkgjnchoanLockEq
import Derived.Test.YtjoaedkgjnchoanLockTab
import Derived.Test.YtjoaedkgjnchoanLockArr
import Derived.BigRegion
import Derived.Deep.CutRange
import Derived.Deep.RegionHeld3
namespace Go.Proofs.Ytjoaedkgjnchoan.PLock
open Go Go.RowKit PPool
set_option maxRecDepth 100000

/-- Two boxes of items. -/
theorem bx6 {w W : World} {x1 x2 x3 y1 y2 y3 : Value} {t t' : TypeId} (hb : Below ((w.alloc (.cells #[x1, x2, x3] t)).alloc (.cells #[y1, y2, y3] t')).heap.size ((w.alloc (.cells #[x1, x2, x3] t)).alloc (.cells #[y1, y2, y3] t')) W) :
    W.cell? ⟨w.heap.size, 0, none⟩ = some x1 ∧ W.cell? ⟨w.heap.size, 1, none⟩ = some x2 ∧ W.cell? ⟨w.heap.size, 2, none⟩ = some x3 ∧ W.cell? ⟨w.heap.size + 1, 0, none⟩ = some y1 ∧ W.cell? ⟨w.heap.size + 1, 1, none⟩ = some y2 ∧ W.cell? ⟨w.heap.size + 1, 2, none⟩ = some y3 := by
  have h1 : W.heap[w.heap.size]? = some (.cells #[x1, x2, x3] t (0, 0)) := (hb.block _ (by simp; omega)).trans (((bx (w.alloc (.cells #[x1, x2, x3] t)) _).block _ (by simp)).trans (heap_alloc_new w _))
  have h2 : W.heap[w.heap.size + 1]? = some (.cells #[y1, y2, y3] t' (0, 0)) := by
    have := heap_alloc_new (w.alloc (.cells #[x1, x2, x3] t)) (.cells #[y1, y2, y3] t')
    rw [World.size_alloc] at this
    exact (hb.block _ (by simp)).trans this
  rw [cell_of_row W _ _ _ _ _ h1, cell_of_row W _ _ _ _ _ h1, cell_of_row W _ _ _ _ _ h1, cell_of_row W _ _ _ _ _ h2, cell_of_row W _ _ _ _ _ h2, cell_of_row W _ _ _ _ _ h2]
  exact ⟨rfl, rfl, rfl, rfl, rfl, rfl⟩

set_option maxHeartbeats 4000000 in
theorem rsame1_any (w : World) (vh1 vq1 vh2 vq2 : Value) (x y : Lk.It) (h1 : LsAt w vh1 x.h) (h2 : LsAt w vq1 x.q) (h3 : LsAt w vh2 y.h) (h4 : LsAt w vq2 y.q) :
    Calls Try.prog 57 #[.agg #[.int .i64 x.i, vh1, vq1], .agg #[.int .i64 y.i, vh2, vq2]] w fun e w' => e = .returned (.bool (decide (x = y))) ∧ Below w.heap.size w w' := by
  obtain ⟨a1, c1, rfl, p1, q1, q1', _⟩ := h1
  obtain ⟨a2, c2, rfl, p2, q2, q2', _⟩ := h2
  obtain ⟨a3, c3, rfl, p3, q3, q3', _⟩ := h3
  obtain ⟨a4, c4, rfl, p4, q4, q4', _⟩ := h4
  unfold maxLen at q1' q2' q3' q4'
  have K1 := hid fun W (hW : Below w.heap.size w W) => equal_any W a1 a3 c1 c3 x.h y.h (p1.below hW) (p3.below hW) (by omega) (by omega)
  have K2 := hid fun W (hW : Below w.heap.size w W) => equal_any W a2 a4 c2 c4 x.q y.q (p2.below hW) (p4.below hW) (by omega) (by omega)
  have HY : Hid (decide (x = y) = ((x.i == y.i) && (decide (x.h = y.h) && decide (x.q = y.q)))) := by
    show _ = _
    obtain ⟨i, h, q⟩ := x
    obtain ⟨j, g, r⟩ := y
    rw [Bool.eq_iff_iff]
    simp
  clear p1 p2 p3 p4 q1 q2 q3 q4 q1' q2' q3' q4'
  generalize decide (x = y) = Y at *
  generalize decide (x.h = y.h) = g1 at *
  generalize decide (x.q = y.q) = g2 at *
  generalize x.h.length = n1 at *
  generalize x.q.length = n2 at *
  generalize y.h.length = n3 at *
  generalize y.q.length = n4 at *
  generalize x.i = i at *
  generalize y.i = j at *
  obtain ⟨W0, hW0⟩ : ∃ W0, W0 = (w.alloc (.cells #[.int .i64 i, .slice a1 n1 c1, .slice a2 n2 c2] 66)).alloc (.cells #[.int .i64 j, .slice a3 n3 c3, .slice a4 n4 c4] 66) := ⟨_, rfl⟩
  have B0 : Hid (Below w.heap.size w W0) := by show Below _ _ _; rw [hW0]; exact below_tr (bx _ _) (bx _ _)
  have C0 := hid fun W (hW : Below W0.heap.size W0 W) => bx6 (by rw [hW0] at hW; exact hW)
  have HW0 := hid hW0
  clear hW0
  go_enter Try.func57, Try.ntmps57
  go_upto_region 1 with fail
  rw [← HW0.out]
  clear HW0
  obtain ⟨d1, d2, d3, d4, d5, d6⟩ := C0.out _ (Below.refl _ _)
  by_cases e : i = j
  · have e' : (i == j) = true := by simpa using e
    cases g1 with
    | true =>
      cases g2 with
      | true =>
        have HF : Hid (Y = true) := by have := HY.out; rw [e'] at this; exact this
        clear HY
        go_wp2_with fail
        refine (K1.out _ B0.out).mono ?_
        rintro r w1 ⟨rfl, hb1⟩
        obtain ⟨d1, d2, d3, d4, d5, d6⟩ := C0.out _ hb1
        have B1 := hid hb1
        clear hb1
        go_wp2_with fail
        refine (K2.out _ (below_tr B0.out B1.out)).mono ?_
        rintro r w2 ⟨rfl, hb2⟩
        have B2 := below_tr B0.out (below_tr B1.out hb2)
        clear hb2
        go_wp2_with fail
        go_ret
        exact ⟨by rw [HF.out]; rfl, B2⟩
      | false =>
        have HF : Hid (Y = false) := by have := HY.out; rw [e'] at this; exact this
        clear HY
        go_wp2_with fail
        refine (K1.out _ B0.out).mono ?_
        rintro r w1 ⟨rfl, hb1⟩
        obtain ⟨d1, d2, d3, d4, d5, d6⟩ := C0.out _ hb1
        have B1 := hid hb1
        clear hb1
        go_wp2_with fail
        refine (K2.out _ (below_tr B0.out B1.out)).mono ?_
        rintro r w2 ⟨rfl, hb2⟩
        have B2 := below_tr B0.out (below_tr B1.out hb2)
        clear hb2
        go_wp2_with fail
        go_ret
        exact ⟨by rw [HF.out]; rfl, B2⟩
    | false =>
      have HF : Hid (Y = false) := by have := HY.out; rw [e'] at this; exact this
      clear HY
      go_wp2_with fail
      refine (K1.out _ B0.out).mono ?_
      rintro r w1 ⟨rfl, hb1⟩
      have B1 := below_tr B0.out hb1
      clear hb1
      go_wp2_with fail
      go_ret
      exact ⟨by rw [HF.out]; rfl, B1⟩
  · have e' : (i == j) = false := by simpa using e
    have HF : Hid (Y = false) := by have := HY.out; rw [e'] at this; exact this
    clear HY
    go_wp2_with fail
    go_ret
    exact ⟨by rw [HF.out]; rfl, B0.out⟩

set_option maxHeartbeats 4000000 in
theorem rsameF_any (w : World) (a1 a2 : Option Addr) (c1 c2 : Nat) (l1 l2 : List Lk.It) (h1 : TbAt w a1 l1) (h2 : TbAt w a2 l2) (hl1 : l1.length ≤ 9223372036854775807) :
    Calls Try.prog 56 #[.slice a1 l1.length c1, .slice a2 l2.length c2, .func (.func 57) #[] #[]] w fun e w' => e = .returned (.bool (decide (l1 = l2))) ∧ Below w.heap.size w w' := by
  obtain ⟨Y, hY⟩ : ∃ Y, Y = decide (l1 = l2) := ⟨_, rfl⟩
  rw [← hY]
  have HY := hid hY
  have KE := hid fun W vh1 vq1 vh2 vq2 x y p1 p2 p3 p4 => rsame1_any W vh1 vq1 vh2 vq2 x y p1 p2 p3 p4
  clear hY
  by_cases hll : l1.length = l2.length
  · have hb : ((l1.length : Int) != (l2.length : Int)) = false := by simp; omega
    have hb2 : (l1.length != l2.length) = false := by simp; omega
    have H1 := hid h1
    have H2 := hid h2
    have HL := hid hll
    clear h1 h2 hll
    go_enter Try.func56, Try.ntmps56
    go_wp2_with fail
    go_loopw [17] (fun i wr => ∃ k : Nat, k ≤ l1.length ∧ i = .int .i64 (k : Int) ∧ Hid (l1.take k = l2.take k) ∧ Hid (Below w.heap.size w wr)) (fun i _ => l1.length - (intOf i).toNat)
    case atStart => exact ⟨0, Nat.zero_le _, rfl, by show _ = _; simp, Below.refl _ _⟩
    case round =>
      obtain ⟨k, hk, rfl, ht, hbel⟩ := hrel
      by_cases hlt : k < l1.length
      · have hlt2 : k < l2.length := by have := HL.out; omega
        obtain ⟨x1, hx1⟩ : ∃ t, l1[k]? = some t := ⟨_, List.getElem?_eq_getElem hlt⟩
        obtain ⟨x2, hx2⟩ : ∃ t, l2[k]? = some t := ⟨_, List.getElem?_eq_getElem hlt2⟩
        obtain ⟨b1, o1, p1, q1, rfl, d1, d1', d1'', n1, n1'⟩ := (H1.out.below hbel.out) k x1 hx1
        obtain ⟨b2, o2, p2, q2, rfl, d2, d2', d2'', n2, n2'⟩ := (H2.out.below hbel.out) k x2 hx2
        have k0 : (0 : Int) ≤ (k : Int) := by omega
        have k1 : (k : Int) < (l1.length : Int) := by omega
        have k2 : (k : Int) < (l2.length : Int) := by omega
        obtain ⟨W1, hW1⟩ : ∃ W1, W1 = wr.alloc (.cells #[.int .i64 x1.i, p1, q1] 66) := ⟨_, rfl⟩
        have hb1 : Below wr.heap.size wr W1 := by rw [hW1]; exact bx _ _
        have HK := hid fun o => KE.out (W1.alloc o) p1 q1 p2 q2 x1 x2 (n1.below (below_tr hb1 (bx _ _))) (n1'.below (below_tr hb1 (bx _ _))) (n2.below (below_tr hb1 (bx _ _))) (n2'.below (below_tr hb1 (bx _ _)))
        have B1 := hid (below_tr hbel.out hb1)
        have A1 : ArrAt W1 wr.heap.size #[.int .i64 x1.i, p1, q1] := by rw [hW1]; exact ArrAt.new wr _ 66
        have d2 := keep1 hb1 d2
        have d2' := keep1 hb1 d2'
        have d2'' := keep1 hb1 d2''
        have r1 := A1.cell (j := 0) rfl
        have r2 := A1.cell (j := 1) rfl
        have r3 := A1.cell (j := 2) rfl
        rw [hW1] at d2 d2' d2'' r1 r2 r3
        have HW1 := hid hW1
        obtain ⟨s1, t1, rfl, _⟩ := n1
        obtain ⟨s2, t2, rfl, _⟩ := n1'
        obtain ⟨s3, t3, rfl, _⟩ := n2
        obtain ⟨s4, t4, rfl, _⟩ := n2'
        clear hW1 hb1 A1 hbel
        by_cases e : x1 = x2
        · subst e
          have NX : Hid (l1.take (k + 1) = l2.take (k + 1)) := by
            obtain ⟨g1, e1⟩ := List.getElem?_eq_some_iff.1 hx1
            obtain ⟨g2, e2⟩ := List.getElem?_eq_some_iff.1 hx2
            show _ = _
            rw [List.take_succ_eq_append_getElem g1, List.take_succ_eq_append_getElem g2, ht.out, e1, e2]
          rw [decide_eq_true rfl] at HK
          clear hx1 hx2 ht
          go_wp2_with fail
          rw [← HW1.out]
          refine (HK.out _).mono ?_
          rintro r w3 ⟨rfl, hb3⟩
          have B3 := hid (below_tr B1.out (below_tr (bx _ _) hb3))
          clear hb3 B1 HK d1 d1' d1'' d2 d2' d2'' r1 r2 r3
          go_wp2_with fail
          go_roundw
          case rel => exact ⟨k + 1, by omega, by go_num, NX, B3⟩
          case measure => simp [intOf]; omega
        · rw [decide_eq_false e] at HK
          have HF : Hid (Y = false) := by
            show _ = _
            rw [HY.out, decide_eq_false_iff_not]
            rintro rfl
            rw [hx1] at hx2
            exact e (Option.some.inj hx2)
          clear hx1 hx2 ht HY e
          go_wp2_with fail
          rw [← HW1.out]
          refine (HK.out _).mono ?_
          rintro r w3 ⟨rfl, hb3⟩
          have B3 := hid (below_tr B1.out (below_tr (bx _ _) hb3))
          clear hb3 B1 HK d1 d1' d1'' d2 d2' d2'' r1 r2 r3
          go_wp2_with fail
          go_ret
          exact ⟨by rw [HF.out]; rfl, B3.out⟩
      · obtain rfl : k = l1.length := by omega
        have j3 : decide ((l1.length : Int) < (l1.length : Int)) = false := by simp
        have HF : Hid (Y = true) := by
          show _ = _
          rw [HY.out, decide_eq_true_iff]
          have := ht.out
          rw [List.take_length, HL.out, List.take_length] at this
          exact this
        clear ht HY
        go_wp2_with fail
        go_ret
        exact ⟨by rw [HF.out]; rfl, hbel.out⟩
  · have hb : ((l1.length : Int) != (l2.length : Int)) = true := by simp; omega
    have HF : Hid (Y = false) := by
      show _ = _
      rw [HY.out, decide_eq_false_iff_not]
      rintro rfl
      exact hll rfl
    clear HY h1 h2 hll
    go_enter Try.func56, Try.ntmps56
    go_wp2_with fail
    go_ret
    exact ⟨by rw [HF.out]; rfl, Below.refl _ _⟩

set_option maxHeartbeats 4000000 in
theorem rsame_any (w : World) (a1 a2 : Option Addr) (c1 c2 : Nat) (l1 l2 : List Lk.It) (h1 : TbAt w a1 l1) (h2 : TbAt w a2 l2) (hl1 : l1.length ≤ 9223372036854775807) :
    Calls Try.prog 29 #[.slice a1 l1.length c1, .slice a2 l2.length c2] w fun e w' => e = .returned (.bool (decide (l1 = l2))) ∧ Below w.heap.size w w' := by
  have K := hid (rsameF_any w a1 a2 c1 c2 l1 l2 h1 h2 hl1)
  clear h1 h2
  generalize decide (l1 = l2) = Y at *
  go_enter Try.func29, Try.ntmps29
  go_wp2_with fail
  refine K.out.mono ?_
  rintro r w3 ⟨rfl, hb3⟩
  go_wp2_with fail
  go_ret
  exact ⟨rfl, hb3⟩
end Go.Proofs.Ytjoaedkgjnchoan.PLock
