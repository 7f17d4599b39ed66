/- lock.allWaits, walked: who waits for whom, as a square of truths; nothing that was there has turned. Conditions: a right table that lies where its slice says. -/
import Derived.Test.YtjoaedkgjnchoanLockTab
import Derived.Test.YtjoaedkgjnchoanLockArr
import Derived.Test.YtjoaedkgjnchoanLockWay
import Derived.BigRegion
import Derived.Deep.CutRange
namespace Go.Proofs.Ytjoaedkgjnchoan.PLock
open Go Go.RowKit PPool
set_option maxRecDepth 100000

/-- What is known of one lock's waiting: of those in the way the first n, of those ahead the first p. -/
def lay2 (R : Nat → Nat → Bool) (t : Nat) (L : List Int) : Nat → Nat → Bool := fun i j => R i j || (decide (i = t) && decide ((j : Int) ∈ L))
theorem lay_next {R : Nat → Nat → Bool} {t s : Nat} {L : List Int} {n : Nat} (hn : L[n]? = some (s : Int)) : lay (lay2 R t (L.take n)) t s true = lay2 R t (L.take (n + 1)) := by
  obtain ⟨h1, h2⟩ := List.getElem?_eq_some_iff.1 hn
  funext i j
  unfold lay lay2
  rw [List.take_succ_eq_append_getElem h1, h2]
  by_cases hi : i = t
  · by_cases hj : j = s
    · rw [if_pos ⟨hi, hj⟩]; simp [hi, hj]
    · rw [if_neg (fun h => hj h.2)]
      have : ¬ ((j : Int) = (s : Int)) := by omega
      simp [hi, this]
  · rw [if_neg (fun h => hi h.1)]
    simp [hi]
theorem lay2_nil (R : Nat → Nat → Bool) (t : Nat) : lay2 R t [] = R := by
  funext i j
  simp [lay2]
/-- The first k items; of the k-th the first q of its queue. -/
def waitTo (T : List Lk.It) (k : Nat) : Nat → Nat → Bool := fun i j => (T.take k).any fun x => Lk.waitI x i j
def queueTo (x : Lk.It) (q : Nat) (i j : Int) : Bool := (List.range q).any fun k => match x.q[k]? with | some l => decide (l.x = i) && Lk.for_ x k l j | none => false
theorem queueTo_all (x : Lk.It) (i j : Int) : queueTo x x.q.length i j = Lk.waitI x i j := rfl
def waitQ (T : List Lk.It) (k : Nat) (x : Lk.It) (q : Nat) : Nat → Nat → Bool := fun i j => waitTo T k i j || queueTo x q i j
theorem waitQ_start (T : List Lk.It) (k : Nat) (x : Lk.It) : waitQ T k x 0 = waitTo T k := by
  funext i j
  simp [waitQ, queueTo]
theorem waitQ_end {T : List Lk.It} {k : Nat} {x : Lk.It} (hx : T[k]? = some x) : waitQ T k x x.q.length = waitTo T (k + 1) := by
  obtain ⟨h1, h2⟩ := List.getElem?_eq_some_iff.1 hx
  funext i j
  unfold waitQ waitTo
  rw [List.take_succ_eq_append_getElem h1, h2, List.any_append, queueTo_all]
  simp
theorem waitTo_all (T : List Lk.It) : waitTo T T.length = Lk.rel T := by
  funext i j
  unfold waitTo Lk.rel Lk.wait
  rw [List.take_length]
/-- One lock of the queue more: whom it finds in the way, and all ahead. -/
theorem waitQ_next {T : List Lk.It} {k q t : Nat} {x : Lk.It} {l : Lk.Lo} (hl : x.q[q]? = some l) (ht : l.x = (t : Int)) : waitQ T k x (q + 1) = lay2 (lay2 (waitQ T k x q) t (Lk.way x.h l)) t ((x.q.take q).map Lk.Lo.x) := by
  funext i j
  unfold waitQ lay2 queueTo
  rw [List.range_succ, List.any_append]
  simp only [List.any_cons, List.any_nil, Bool.or_false, hl, ht]
  unfold Lk.for_ Lk.has
  have e1 : decide ((t : Int) = (i : Int)) = decide (i = t) := by
    by_cases h : i = t
    · subst h; simp
    · have : ¬ ((t : Int) = (i : Int)) := by omega
      simp [h, this]
  have e2 : ((x.q.take q).any fun l => decide (l.x = (j : Int))) = decide ((j : Int) ∈ (x.q.take q).map Lk.Lo.x) := by
    rw [Bool.eq_iff_iff, List.any_eq_true, decide_eq_true_eq, List.mem_map]
    simp
  rw [e1, e2]
  cases decide (i = t) <;> simp [Bool.or_assoc]

attribute [local go_sem ↓] loadP_pre storeP_pre
/-- How all stands while it is found who waits for whom. -/
structure WtAt (w W : World) (R : Nat → Nat → Bool) : Prop where
  res : ArrAt W w.heap.size (pA fun _ _ => false)
  arr : ArrAt W (w.heap.size + 1) (pA R)
  bel : Below w.heap.size w W
theorem WtAt.below {w W W' : World} {R : Nat → Nat → Bool} (h : WtAt w W R) (hb : Below W.heap.size W W') : WtAt w W' R := ⟨h.res.below hb, h.arr.below hb, below_tr h.bel hb⟩
theorem WtAt.lay {w W : World} {R : Nat → Nat → Bool} (h : WtAt w W R) {s t : Nat} (hs : s < 12) (ht : t < 12) (v : Bool) : WtAt w (W.setCell ⟨w.heap.size + 1, s * 12 + t, none⟩ (.bool v)) (Go.Proofs.Ytjoaedkgjnchoan.PLock.lay R s t v) :=
  ⟨h.res.apart (by omega) _ _, by rw [← pA_set R hs ht v]; exact h.arr.put _ _, h.bel.setCell (p := ⟨w.heap.size + 1, s * 12 + t, none⟩) (Nat.le_succ _) _⟩
theorem WtAt.spot {w W : World} {R : Nat → Nat → Bool} (h : WtAt w W R) {s t : Nat} (hs : s < 12) (ht : t < 12) : W.cell? ⟨w.heap.size + 1, s * 12 + t, none⟩ = some (.bool (R s t)) ∧ W.frozen? ⟨w.heap.size + 1, s * 12 + t, none⟩ = false :=
  ⟨h.arr.cell (pA_at R hs ht), h.arr.fz _⟩
abbrev kp (N : Nat) (W W' : World) : Prop := Goes (fun b => b = N) W W' (fun b => b = N)
theorem kp_cell {N : Nat} {W W' : World} {a : Addr} {v : Value} (h : W.cell? a = some v) (hk : kp N W W') (hn : a.block ≠ N) : W'.cell? a = some v :=
  (World.cell?_of_block (hk.block _ (World.block_lt_of_cell? W _ h) hn)).trans h

set_option maxHeartbeats 16000000 in
theorem allWaits_any (w : World) (a : Option Addr) (c : Nat) (T : List Lk.It) (h : TbAt w a T) (hg : Lk.Good T) :
    Calls Try.prog 54 #[.slice a T.length c] w fun e w' => e = .returned (.agg (pA (Lk.rel T))) ∧ Below w.heap.size w w' := by
  have H := hid h
  have HG := hid hg
  have KW := hid fun W i a c L vq l h hl => inTheWay_any W i a c L vq l h hl
  have hz2 := (zero_of_info pairs_info).1
  obtain ⟨n, hn⟩ : ∃ n, n = T.length := ⟨_, rfl⟩
  have HN := hid hn
  have n20 : (n : Int) ≤ 20 := by have := hg.len; omega
  rw [← hn]
  clear h hg hn
  obtain ⟨N, hN⟩ : ∃ N, N = w.heap.size := ⟨_, rfl⟩
  have A0 : Hid (WtAt w ((w.alloc (.cells (pA fun _ _ => false) 100)).alloc (.cells (pA fun _ _ => false) 100)) (waitTo T 0)) := by
    refine ⟨(ArrAt.new w _ _).below (bx _ _), ?_, below_tr (bx _ _) (bx _ _)⟩
    have := ArrAt.new (w.alloc (.cells (pA fun _ _ => false) 100)) (pA fun _ _ => false) 100
    rw [World.size_alloc] at this
    exact this
  have HNw := hid hN
  clear hN
  go_enter Try.func54, Try.ntmps54
  go_wp2_with fail
  go_loopw [14] (fun i wr => ∃ k : Nat, k ≤ n ∧ i = .int .i64 (k : Int) ∧ Hid (WtAt w wr (waitTo T k))) (fun i _ => n - (intOf i).toNat)
  case atStart => exact ⟨0, Nat.zero_le _, rfl, A0⟩
  case round =>
    clear A0
    obtain ⟨k, hk, rfl, hA⟩ := hrel
    by_cases hlt : k < n
    · obtain ⟨x, hx⟩ : ∃ x, T[k]? = some x := ⟨_, List.getElem?_eq_getElem (by have := HN.out; omega)⟩
      obtain ⟨b, o, vh, vq, e0, d0, d1, d2, lh, lq⟩ := (H.out.below hA.out.bel) k x hx
      obtain ⟨b', o', vh', vq', e0', f0, f1, f2, lh', lq'⟩ := H.out k x hx
      have evh : vh = vh' := by
        rw [e0] at e0'
        injection e0' with e0'
        injection e0' with e1 e2
        subst e1; subst e2
        have := keep1 hA.out.bel f1
        rw [d1] at this
        exact Option.some.inj this
      have evq : vq = vq' := by
        rw [e0] at e0'
        injection e0' with e0'
        injection e0' with e1 e2
        subst e1; subst e2
        have := keep1 hA.out.bel f2
        rw [d2] at this
        exact Option.some.inj this
      subst evh; subst evq
      subst e0
      have k0 : (0 : Int) ≤ (k : Int) := by omega
      have k1 : (k : Int) < (n : Int) := by omega
      have hr := (HG.out.it x (List.mem_of_getElem? hx)).2.2
      have HRt := hid hr
      have l12q := hr.rq.len
      have l12h := hr.rh.len
      obtain ⟨ah, ch, rfl, lh1, _⟩ := lh'
      obtain ⟨aq, cq, rfl, lq1, lq2, lq3, _⟩ := lq'
      have HLH := hid lh1
      have HLQ := hid lq1
      have HX := hid hx
      obtain ⟨nh, hnh⟩ : ∃ n, n = x.h.length := ⟨_, rfl⟩
      obtain ⟨nq, hnq⟩ : ∃ n, n = x.q.length := ⟨_, rfl⟩
      rw [← hnh] at d1
      rw [← hnq] at d2 lq2 l12q
      have HNH := hid hnh
      have HNQ := hid hnq
      have q12 : (nq : Int) ≤ 12 := by omega
      have cq1 : (nq : Int) ≤ (cq : Int) := by omega
      obtain ⟨W1, hW1⟩ : ∃ W1, W1 = wr.alloc (.cells #[.int .i64 x.i, .slice ah nh ch, .slice aq nq cq] 66) := ⟨_, rfl⟩
      obtain ⟨B1, hB1⟩ : ∃ B, B = wr.heap.size := ⟨_, rfl⟩
      have Q1 : Hid (WtAt w W1 (waitQ T k x 0)) := by show WtAt _ _ _; rw [waitQ_start, hW1]; exact hA.out.below (bx _ _)
      have I1 : Hid (W1.cell? ⟨B1, 0, none⟩ = some (.int .i64 x.i) ∧ W1.cell? ⟨B1, 1, none⟩ = some (.slice ah nh ch) ∧ W1.cell? ⟨B1, 2, none⟩ = some (.slice aq nq cq)) := by rw [hW1, hB1]; exact ibox (Below.refl _ _)
      have hBN : Hid (B1 ≠ w.heap.size + 1) := by have := hA.out.arr.lt; show _ ≠ _; omega
      have HW1 := hid hW1
      have HB1 := hid hB1
      clear hx lh lq lh1 lq1 hnh hnq hr hW1 hB1 hA e0' f0 f1 f2
      go_wp2_with fail
      rw [← HW1.out, ← HB1.out]
      clear HW1 HB1 d0 d1 d2
      obtain ⟨i0, i1, i2⟩ := I1.out
      go_loopw [21] (fun i wr2 => ∃ q : Nat, q ≤ nq ∧ i = .int .i64 (q : Int) ∧ Hid (WtAt w wr2 (waitQ T k x q)) ∧ Hid (kp (w.heap.size + 1) W1 wr2)) (fun i _ => nq - (intOf i).toNat)
      case atStart => exact ⟨0, Nat.zero_le _, rfl, Q1, Goes.refl _ _⟩
      case round =>
        clear Q1 i0 i1 i2
        obtain ⟨q, hq, rfl, hQ, hG1⟩ := hrel
        have i0 := kp_cell I1.out.1 hG1.out hBN.out
        have i1 := kp_cell I1.out.2.1 hG1.out hBN.out
        have i2 := kp_cell I1.out.2.2 hG1.out hBN.out
        by_cases hqn : q < nq
        · obtain ⟨l, hl⟩ : ∃ l, x.q[q]? = some l := ⟨_, List.getElem?_eq_getElem (by have := HNQ.out; omega)⟩
          obtain ⟨b1, o1, e1, g1, g2⟩ := (HLQ.out.below hQ.out.bel) q l hl
          subst e1
          have q0 : (0 : Int) ≤ (q : Int) := by omega
          have q1 : (q : Int) < (nq : Int) := by omega
          have q2 : (q : Int) ≤ (cq : Int) := by omega
          have hlr := HRt.out.rq.lo l (List.mem_of_getElem? hl)
          obtain ⟨t, ht⟩ : ∃ t : Nat, l.x = (t : Int) := ⟨l.x.toNat, by omega⟩
          have t12 : t < 12 := by omega
          have t0 : (0 : Int) ≤ (t : Int) := by omega
          have t1 : (t : Int) < 12 := by omega
          have HNX := hid (waitQ_next (T := T) (k := k) hl ht)
          have hwl : ∀ z ∈ Lk.way x.h l, 0 ≤ z ∧ z < 12 := fun z hz => by
            obtain ⟨y, hy, rfl, _⟩ := Lk.way_iff.1 hz
            have := HRt.out.rh.lo y hy
            exact ⟨this.1, this.2.1⟩
          have HWL := hid hwl
          have HLLen : Hid ((Lk.way x.h l).length ≤ 12) := by
            show _ ≤ _
            unfold Lk.way
            rw [List.length_map]
            exact Nat.le_trans (List.length_filter_le _ _) (by have := HNH.out; omega)
          obtain ⟨L, hL⟩ : ∃ L, L = Lk.way x.h l := ⟨_, rfl⟩
          obtain ⟨W2, hW2⟩ : ∃ W2, W2 = wr.alloc (.cells #[.int .i64 (t : Int), .int .i64 l.m] 62) := ⟨_, rfl⟩
          obtain ⟨B2, hB2⟩ : ∃ B, B = wr.heap.size := ⟨_, rfl⟩
          have A2 : Hid (WtAt w W2 (waitQ T k x q)) := by show WtAt _ _ _; rw [hW2]; exact hQ.out.below (bx _ _)
          have G2 : Hid (kp (w.heap.size + 1) W1 W2) := by show kp _ _ _; rw [hW2]; exact goes_below hG1.out (bx _ _)
          have I2 : Hid (W2.cell? ⟨B2, 0, none⟩ = some (.int .i64 (t : Int)) ∧ W2.cell? ⟨B2, 1, none⟩ = some (.int .i64 l.m)) := by rw [hW2, hB2]; exact box2 (Below.refl _ _)
          have hB2N : Hid (B2 ≠ w.heap.size + 1) := by have := hQ.out.arr.lt; show _ ≠ _; omega
          have KW2 := hid (KW.out W2 (.int .i64 x.i) ah ch x.h (.slice (some ⟨b1, o1, none⟩) nq cq) l (HLH.out.below A2.out.bel) (by have := HNH.out; omega))
          rw [← hL] at KW2 HNX HWL HLLen
          rw [← HNH.out] at KW2
          rw [ht] at g1 KW2
          have HL := hid hl
          have HW2 := hid hW2
          have HB2 := hid hB2
          obtain ⟨lx, lm⟩ := l
          simp only at g1 g2 I2 KW2 HW2 ht
          clear hl hlr hwl hL hW2 hB2 hQ hG1
          go_upto_region 8 with fail
          rw [← HW2.out, ← HB2.out]
          clear HW2 HB2 g1 g2 i0 i1 i2
          have i0 := kp_cell I1.out.1 G2.out hBN.out
          have i1 := kp_cell I1.out.2.1 G2.out hBN.out
          have i2 := kp_cell I1.out.2.2 G2.out hBN.out
          obtain ⟨j0, j1⟩ := I2.out
          go_wp2_with fail
          refine KW2.out.mono ?_
          rintro r w3 ⟨vl, rfl, ol, b3⟩
          obtain ⟨al, cl, rfl, hpl, _, _⟩ := ol.at_
          have A3 := hid (A2.out.below b3)
          have G3 : Hid (kp (w.heap.size + 1) W1 w3) := goes_below G2.out b3
          have I3 : Hid (w3.cell? ⟨B2, 0, none⟩ = some (.int .i64 (t : Int)) ∧ w3.cell? ⟨B2, 1, none⟩ = some (.int .i64 lm)) := ⟨keep1 b3 I2.out.1, keep1 b3 I2.out.2⟩
          have HP : Hid (∀ W, kp (w.heap.size + 1) w3 W → IntsAt W al L) := fun W hk => hpl.keep fun z hz => by
            have hz2 := ol.lt z.block (by rw [hz]; rfl)
            refine hk.block _ hz2.2 ?_
            have := A2.out.arr.lt
            intro e
            have e : z.block = w.heap.size + 1 := e
            omega
          obtain ⟨nl, hnl⟩ : ∃ n, n = L.length := ⟨_, rfl⟩
          have HNL := hid hnl
          have nl2 : Hid (nl ≤ 12) := by
            have := HLLen.out
            show _ ≤ _
            omega
          rw [← hnl]
          clear ol b3 hpl hnl KW2 A2 G2 I2 i0 i1 i2 j0 j1
          have Z3 : Hid (WtAt w w3 (lay2 (waitQ T k x q) t (L.take 0))) := by show WtAt _ _ _; rw [List.take_zero, lay2_nil]; exact A3.out
          have nl3 : (nl : Int) ≤ 12 := by have := nl2.out; omega
          go_wp2_with fail
          go_loopw [30] (fun i wr3 => ∃ u : Nat, u ≤ nl ∧ i = .int .i64 (u : Int) ∧ Hid (WtAt w wr3 (lay2 (waitQ T k x q) t (L.take u))) ∧ Hid (kp (w.heap.size + 1) w3 wr3)) (fun i _ => nl - (intOf i).toNat)
          case atStart => exact ⟨0, Nat.zero_le _, rfl, Z3, Goes.refl _ _⟩
          case round =>
            clear Z3
            obtain ⟨u, hu, rfl, hU, hK⟩ := hrel
            by_cases hun : u < nl
            · obtain ⟨z, hz⟩ : ∃ z, L[u]? = some z := ⟨_, List.getElem?_eq_getElem (by have := HNL.out; omega)⟩
              have hzb := HWL.out z (List.mem_of_getElem? hz)
              obtain ⟨s, rfl⟩ : ∃ s : Nat, z = (s : Int) := ⟨z.toNat, by omega⟩
              have s0 : (0 : Int) ≤ (s : Int) := by omega
              have s1 : (s : Int) < 12 := by omega
              have u0 : (0 : Int) ≤ (u : Int) := by omega
              have u1 : (u : Int) < (nl : Int) := by omega
              obtain ⟨ba, oa, ea, hca⟩ := (HP.out _ hK.out) _ _ hz
              subst ea
              have j0 := kp_cell I3.out.1 hK.out hB2N.out
              have hSP := hU.out.spot t12 (by omega : s < 12)
              obtain ⟨f1, f2⟩ := hSP
              have NU := hid (hU.out.lay t12 (by omega : s < 12) true)
              rw [lay_next hz] at NU
              have NK : Hid (kp (w.heap.size + 1) w3 (wr.setCell ⟨w.heap.size + 1, t * 12 + s, none⟩ (.bool true))) := Goes.setCell (q := ⟨w.heap.size + 1, t * 12 + s, none⟩) hK.out (.inl rfl) _
              clear hU hK hz
              go_wp2_with fail
              go_roundw
              case rel => first
                | exact ⟨u + 1, by omega, by go_num, NU, NK⟩
                | ((repeat apply Exists.intro); exact ⟨⟨u + 1, by omega, by go_num, NU, NK⟩, rfl⟩)
              case measure => simp [intOf]; omega
            · obtain rfl : u = nl := by omega
              have j5 : decide ((u : Int) < (u : Int)) = false := by simp
              obtain ⟨R, hR⟩ : ∃ R, R = lay2 (waitQ T k x q) t L := ⟨_, rfl⟩
              have Z4 : Hid (WtAt w wr (lay2 R t (((x.q.take q).map Lk.Lo.x).take 0))) := by show WtAt _ _ _; rw [List.take_zero, lay2_nil, hR]; have := hU.out; rwa [HNL.out, List.take_length] at this
              have K4 := hid hK.out
              rw [← hR] at HNX
              have j0 := kp_cell (kp_cell I1.out.1 G3.out hBN.out) hK.out hBN.out
              have j1 := kp_cell (kp_cell I1.out.2.1 G3.out hBN.out) hK.out hBN.out
              have j2 := kp_cell (kp_cell I1.out.2.2 G3.out hBN.out) hK.out hBN.out
              clear hU hK hR HP
              go_wp2_with fail
              clear j0 j1 j2 j5
              go_loopw [45] (fun i wr4 => ∃ p : Nat, p ≤ q ∧ i = .int .i64 (p : Int) ∧ Hid (WtAt w wr4 (lay2 R t (((x.q.take q).map Lk.Lo.x).take p))) ∧ Hid (kp (w.heap.size + 1) w3 wr4)) (fun i _ => q - (intOf i).toNat)
              case atStart => exact ⟨0, Nat.zero_le _, rfl, Z4, K4⟩
              case round =>
                clear Z4 K4
                obtain ⟨p, hp, rfl, hU, hK⟩ := hrel
                by_cases hpq : p < q
                · obtain ⟨y, hy⟩ : ∃ y, x.q[p]? = some y := ⟨_, List.getElem?_eq_getElem (by have := HNQ.out; omega)⟩
                  have hyr := HRt.out.rq.lo y (List.mem_of_getElem? hy)
                  obtain ⟨s, hs⟩ : ∃ s : Nat, y.x = (s : Int) := ⟨y.x.toNat, by omega⟩
                  have s0 : (0 : Int) ≤ (s : Int) := by omega
                  have s1 : (s : Int) < 12 := by omega
                  have p0 : (0 : Int) ≤ (p : Int) := by omega
                  have p1 : (p : Int) < (q : Int) := by omega
                  have hMs : ((x.q.take q).map Lk.Lo.x)[p]? = some (s : Int) := by
                    rw [List.getElem?_map, List.getElem?_take, if_pos hpq, hy, ← hs]; rfl
                  obtain ⟨b', o', e', d1, d2⟩ := (HLQ.out.below hU.out.bel) p y hy
                  injection e' with e'
                  injection e' with e1 e2
                  subst e1; subst e2
                  obtain ⟨ys, ym⟩ := y
                  simp only at d1 d2 hs
                  subst hs
                  obtain ⟨B3, hB3⟩ : ∃ B, B = wr.heap.size := ⟨_, rfl⟩
                  have hl3 : w.heap.size + 1 < wr.heap.size := hU.out.arr.lt
                  obtain ⟨W5, hW5⟩ : ∃ W5, W5 = wr.alloc (.cells #[.int .i64 (s : Int), .int .i64 ym] 62) := ⟨_, rfl⟩
                  have A5 : WtAt w W5 (lay2 R t (((x.q.take q).map Lk.Lo.x).take p)) := by rw [hW5]; exact hU.out.below (bx _ _)
                  have G5 : kp (w.heap.size + 1) w3 W5 := by rw [hW5]; exact goes_below hK.out (bx _ _)
                  have f0 := kp_cell I3.out.1 G5 hB2N.out
                  have f1 : W5.cell? ⟨B3, 0, none⟩ = some (.int .i64 (s : Int)) := by rw [hW5, hB3]; exact (box2 (Below.refl _ _)).1
                  obtain ⟨f2, f3⟩ := A5.spot t12 (by omega : s < 12)
                  have NU := hid (A5.lay t12 (by omega : s < 12) true)
                  rw [lay_next hMs] at NU
                  have NK : Hid (kp (w.heap.size + 1) w3 (W5.setCell ⟨w.heap.size + 1, t * 12 + s, none⟩ (.bool true))) := Goes.setCell (q := ⟨w.heap.size + 1, t * 12 + s, none⟩) G5 (.inl rfl) _
                  have HW5 := hid hW5
                  have HB3 := hid hB3
                  clear hU hK hy hMs A5 G5 hW5 hB3 hyr
                  go_upto_region 16 with fail
                  rw [← HW5.out, ← HB3.out]
                  clear HW5 HB3 d1 d2
                  go_region
                  all_goals
                    go_wp2_with fail
                    exact ⟨⟨p + 1, by omega, by go_num, NU.out.below (Below.refl _ _).drew, goes_below NK.out (Below.refl _ _).drew⟩, by simp [intOf]; omega⟩
                · obtain rfl : p = q := by omega
                  have j6 : decide ((p : Int) < (p : Int)) = false := by simp
                  have NN : Hid (WtAt w wr (waitQ T k x (p + 1))) := by show WtAt _ _ _; rw [HNX.out]; have := hU.out; rwa [List.take_of_length_le (by rw [List.length_map, List.length_take]; omega)] at this
                  have NG : Hid (kp (w.heap.size + 1) W1 wr) := (G3.out).trans hK.out
                  clear hU hK
                  go_wp2_with fail
                  go_roundw
                  case rel => first
                    | exact ⟨p + 1, by omega, by go_num, NN, NG⟩
                    | ((repeat apply Exists.intro); exact ⟨⟨p + 1, by omega, by go_num, NN, NG⟩, rfl⟩)
                  case measure => simp [intOf]; omega
        · obtain rfl : q = nq := by omega
          have j4 : decide ((q : Int) < (q : Int)) = false := by simp
          have NA : Hid (WtAt w wr (waitTo T (k + 1))) := by have := hQ.out; rw [HNQ.out, waitQ_end HX.out] at this; exact this
          clear hQ hG1
          go_wp2_with fail
          go_roundw
          case rel => first
            | exact ⟨k + 1, by omega, by go_num, NA⟩
            | ((repeat apply Exists.intro); exact ⟨⟨k + 1, by omega, by go_num, NA⟩, rfl⟩)
          case measure => simp [intOf]; omega
    · obtain rfl : k = n := by omega
      have j3 : decide ((k : Int) < (k : Int)) = false := by simp
      have hF : Hid (WtAt w wr (Lk.rel T)) := by have := hA.out; rw [HN.out, waitTo_all] at this; exact this
      clear hA
      have hl : w.heap.size + 1 < wr.heap.size := hF.out.arr.lt
      have l1 := run_loadP hF.out.arr
      have s1 := run_storeP (R := Lk.rel T) hF.out.res
      have hO := hid (hF.out.res.row (pA (Lk.rel T)))
      have hB := hid (Below.row hF.out.bel (g := w.heap.size) (Nat.le_refl _) (pA (Lk.rel T)))
      clear hF
      go_wp2_with fail
      exact bodyPost_ret (hO.out.resultP rfl rfl) rfl ⟨rfl, hB.out⟩
end Go.Proofs.Ytjoaedkgjnchoan.PLock
