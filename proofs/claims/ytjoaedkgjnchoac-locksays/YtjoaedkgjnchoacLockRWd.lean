/- quirref.WaitEdges, walked: of a right table it tells the edges that the plain words tell. Conditions: a right table that lies where its slice says. -/
import Derived.Test.YtjoaedkgjnchoacLockRWe
namespace Go.Proofs.Ytjoaedkgjnchoac.PLock
open Go Go.RowKit PPool PGraph
set_option maxRecDepth 100000

/-- How all stands while the edges are told: the box of the one who waits, the edges. -/
structure WdAt (w W : World) (b : Nat) (k : Int) (v : Value) (L : List Gr.Ed) : Prop where
  blk : W.heap[b]? = some (.cells #[.int .i64 k] 3 (0, 0))
  out : OwnPg W w.heap.size v L
  bel : Below w.heap.size w W
theorem pg_ty {w : World} {b : Nat} {V : Value} {R : List Gr.Ed} (k : OwnPg w b V R) {g : Nat} (hg : V.ownBlock = some g) : ∃ cur, w.heap[g]? = some (.cells cur 42 (0, 0)) := by
  rcases k.2 with ⟨rfl, _⟩ | ⟨g1, cap, cur, rfl, _, hh, _⟩
  · cases hg
  · have hg : g1 = g := Option.some.inj hg
    subst hg
    exact ⟨cur, hh⟩
theorem WdAt.below {w W W' : World} {b : Nat} {k : Int} {v : Value} {L : List Gr.Ed} (h : WdAt w W b k v L) (hb : Below W.heap.size W W') : WdAt w W' b k v L := ⟨(hb.block _ (lt_of_heap h.blk)).trans h.blk, h.out.below hb, below_tr h.bel hb⟩
theorem WdAt.grown {w W W' : World} {b : Nat} {k : Int} {v v' : Value} {L L' : List Gr.Ed} (h : WdAt w W b k v L) (hg : W.grownBy W' v.ownBlock) (ho : OwnPg W' w.heap.size v' L') : WdAt w W' b k v' L' := by
  refine ⟨(hg.block _ (lt_of_heap h.blk) (fun e => ?_)).trans h.blk, ho, h.bel.grown hg h.bel.size (fun g hg => (h.out.lt g hg).1)⟩
  obtain ⟨c2, e2⟩ := pg_ty h.out e.symm
  exact absurd (ty_ne h.blk e2) (by decide)
theorem WdAt.cell {w W : World} {b : Nat} {k : Int} {v : Value} {L : List Gr.Ed} (h : WdAt w W b k v L) : W.cell? ⟨b, 0, none⟩ = some (.int .i64 k) := by
  rw [cell_of_row W _ _ _ _ _ h.blk]; rfl

set_option maxHeartbeats 8000000 in
theorem rwaits_any (w : World) (a : Option Addr) (c : Nat) (T : List Lk.It) (h : TbAt w a T) (hg : Lk.Good T) :
    Calls Try.prog 16 #[.slice a T.length c] w fun e w' => ∃ v, e = .returned v ∧ OwnPg w' w.heap.size v (Lk.waits T) ∧ Below w.heap.size w w' := by
  have H := hid h
  have HG := hid hg
  have l20 := hg.len
  have l20' : (T.length : Int) ≤ 20 := by omega
  obtain ⟨i0, hi, hz0, hz1, hz3⟩ := info_parts edge_info
  obtain ⟨R, hR⟩ : ∃ R, R = Lk.rel T := ⟨_, rfl⟩
  have HW : Hid (Lk.waits T = Lk.edgesTo R 12 0) := by show _ = _; rw [hR]; rfl
  have HRR : Hid (∀ k j, R k j = Lk.wait (T.take T.length) (k : Int) (j : Int)) := fun k j => by rw [hR, List.take_length]; rfl
  clear h hg hR
  go_enter Try.func16, Try.ntmps16
  go_wp2_with fail
  go_loopw [3, 11] (fun v i wr => ∃ (k : Nat) (V : Value), k ≤ 12 ∧ V = v ∧ i = .int .i64 (k : Int) ∧ Hid (OwnPg wr w.heap.size V (Lk.edgesTo R k 0)) ∧ Hid (Below w.heap.size w wr)) (fun _ i _ => 12 - (intOf i).toNat)
  case atStart => exact ⟨0, _, Nat.zero_le _, rfl, rfl, by rw [Lk.edgesTo_start]; exact OwnPg.nil _ _, Below.refl _ _⟩
  case round =>
    obtain ⟨k, v, hk, rfl, rfl, hO, hb⟩ := hrel
    by_cases hlt : k < 12
    · have k0 : (0 : Int) ≤ (k : Int) := by omega
      have k1 : (k : Int) < 12 := by omega
      obtain ⟨ba, hba⟩ : ∃ ba, ba = wr.heap.size := ⟨_, rfl⟩
      have A0 : Hid (WdAt w (wr.alloc (.cells #[.int .i64 (k : Int)] 3)) ba (k : Int) v (Lk.edgesTo R k 0)) := by
        show WdAt _ _ _ _ _ _
        rw [hba]
        exact ⟨heap_alloc_new wr _, hO.out.below (bx _ _), below_tr hb.out (bx _ _)⟩
      clear hO hb
      go_wp2_with fail
      rw [← hba]
      clear hba
      go_loopw [3, 14] (fun v i wr => ∃ (j : Nat) (V : Value), j ≤ 12 ∧ V = v ∧ i = .int .i64 (j : Int) ∧ Hid (WdAt w wr ba (k : Int) V (Lk.edgesTo R k j))) (fun _ i _ => 12 - (intOf i).toNat)
      case atStart => exact ⟨0, v, Nat.zero_le _, rfl, rfl, A0⟩
      case round =>
        clear A0
        obtain ⟨j, v, hj, rfl, rfl, hA⟩ := hrel
        by_cases hjk : j < 12
        · have j0 : (0 : Int) ≤ (j : Int) := by omega
          have j1 : (j : Int) < 12 := by omega
          have HN := hid (fun h => @Lk.edge_next R k j h)
          have HS := hid (fun h => @Lk.edge_skip R k j h)
          have hlen := Lk.edgesTo_len R k j
          have HRk := hid (HRR.out k j)
          obtain ⟨A, hAe⟩ : ∃ A, A = R k j := ⟨_, rfl⟩
          obtain ⟨L, hL⟩ : ∃ L, L = Lk.edgesTo R k j := ⟨_, rfl⟩
          rw [← hAe] at HN HS HRk
          rw [← hL] at hA HN HS hlen
          clear hAe hL
          obtain ⟨Wj, hWj⟩ : ∃ Wj, Wj = wr := ⟨_, rfl⟩
          rw [← hWj] at hA ⊢
          clear hWj
          go_wp2_with fail
          go_loopw [6, 19] (fun g i wx => ∃ m : Nat, m ≤ T.length ∧ g = .bool (Lk.wait (T.take m) (k : Int) (j : Int)) ∧ i = .int .i64 (m : Int) ∧ Hid (Below Wj.heap.size Wj wx)) (fun _ i _ => T.length - (intOf i).toNat)
          case atStart => exact ⟨0, Nat.zero_le _, rfl, rfl, Below.refl _ _⟩
          case round =>
            obtain ⟨m, hm, rfl, rfl, hb⟩ := hrel
            by_cases hlm : m < T.length
            · obtain ⟨x, hx⟩ : ∃ x, T[m]? = some x := ⟨_, List.getElem?_eq_getElem hlm⟩
              obtain ⟨b, o, vh, vq, rfl, d0, d1, d2, lh, lq⟩ := (H.out.below (below_tr hA.out.bel hb.out)) m x hx
              have m0 : (0 : Int) ≤ (m : Int) := by omega
              have m1 : (m : Int) < (T.length : Int) := by omega
              have hr := (HG.out.it x (List.mem_of_getElem? hx)).2.2
              have HN1 : Hid (Lk.wait (T.take (m + 1)) (k : Int) (j : Int) = (Lk.wait (T.take m) (k : Int) (j : Int) || rw1 x (k : Int) (j : Int))) := by show _ = _; rw [wait_next hx, rw1_is hr]
              obtain ⟨is, his⟩ : ∃ is, is = Lk.wait (T.take m) (k : Int) (j : Int) := ⟨_, rfl⟩
              rw [← his] at HN1 ⊢
              clear hx his
              obtain ⟨W8, hW8⟩ : ∃ W8, W8 = wr.alloc (.cells #[.int .i64 x.i, vh, vq] 57) := ⟨_, rfl⟩
              obtain ⟨b8, hb8⟩ : ∃ b8, b8 = wr.heap.size := ⟨_, rfl⟩
              have B8 : Hid (Below Wj.heap.size Wj W8) := by show Below _ _ _; rw [hW8]; exact below_tr hb.out (bx _ _)
              have hbx : Below wr.heap.size wr W8 := by rw [hW8]; exact bx _ _
              have LH := hid (lh.below hbx)
              have LQ := hid (lq.below hbx)
              obtain ⟨ah, ch, rfl, _⟩ := lh
              obtain ⟨aq, cq, rfl, _, hcq, hcm, _⟩ := lq
              have SB : Hid (∀ W, Below W8.heap.size W8 W → W.cell? ⟨b8, 0, none⟩ = some (.int .i64 x.i) ∧ W.cell? ⟨b8, 1, none⟩ = some (.slice ah x.h.length ch) ∧ W.cell? ⟨b8, 2, none⟩ = some (.slice aq x.q.length cq) ∧ W.cell? ⟨ba, 0, none⟩ = some (.int .i64 (k : Int))) := fun W hW => by
                have h0 : ArrAt W8 b8 #[.int .i64 x.i, .slice ah x.h.length ch, .slice aq x.q.length cq] := by rw [hW8, hb8]; exact ArrAt.new wr _ 57
                have h1 := h0.below hW
                exact ⟨h1.cell rfl, h1.cell rfl, h1.cell rfl, (hA.out.below (below_tr B8.out hW)).cell⟩
              have HW8 := hid hW8
              have HB8 := hid hb8
              have l12h := hr.rh.len
              have l12q := hr.rq.len
              have KI := hid (index_any W8 aq cq x.q 36 #[.pointer (some ⟨ba, 0, none⟩)] (fun l => decide (l.x = (k : Int))) (fun args W => by rfl) (fun W y _ hW => rwaits1_any W y ba (k : Int) (SB.out W hW).2.2.2) LQ.out.lk (by omega))
              rw [ix_has] at KI
              have KH := hid fun W (hW : Below W8.heap.size W8 W) => rholds_any W ah ch x.h (j : Int) (LH.out.lk.below hW) (by omega)
              have HRW : Hid (rw1 x (k : Int) (j : Int) = if Lk.has x.q (k : Int) = false ∨ (k : Int) = (j : Int) then false else Lk.has (x.q.take (Lk.pl x.q (k : Int))) (j : Int) || (Lk.has x.h (j : Int) && !Lk.fit (Lk.wish x.h ⟨(k : Int), Lk.md x.q (k : Int)⟩) (Lk.md x.h (j : Int)))) := rfl
              have HQ := hid fun (h : Lk.has x.q (k : Int) = true) => Lk.pl_at h
              have HQL := hid fun (h : Lk.has x.q (k : Int) = true) => Lk.pl_lt h
              have HRr := hid hr
              obtain ⟨nh, hnh⟩ : ∃ nh, nh = x.h.length := ⟨_, rfl⟩
              obtain ⟨nq, hnq⟩ : ∃ nq, nq = x.q.length := ⟨_, rfl⟩
              rw [← hnh] at d1 LH SB HW8 KH
              rw [← hnq] at d2 LQ SB HW8 KI hcq HQL
              have HNH := hid hnh
              have HNQ := hid hnq
              clear hW8 hb8 hb hbx hr hnh hnq
              obtain ⟨p, hp⟩ : ∃ p, p = Lk.pl x.q (k : Int) := ⟨_, rfl⟩
              rw [← hp] at KI HRW HQ HQL
              obtain ⟨hq, hhq⟩ : ∃ hq, hq = Lk.has x.q (k : Int) := ⟨_, rfl⟩
              rw [← hhq] at KI HRW HQ HQL
              clear hp hhq
              cases hq with
              | false =>
                have HY : Hid (Lk.wait (T.take (m + 1)) (k : Int) (j : Int) = is) := by show _ = _; rw [HN1.out, HRW.out, if_pos (.inl rfl), Bool.or_false]
                rw [if_neg (by simp)] at KI
                clear HN1 HRW HQ HQL KH
                go_wp2_with fail
                rw [← HW8.out, ← HB8.out]
                refine KI.out.mono ?_
                rintro r w9 ⟨rfl, hb9⟩
                obtain ⟨f0, f1, f2, f3⟩ := SB.out _ hb9
                have B9 := hid (below_tr B8.out hb9)
                clear hb9 KI d0 d1 d2
                go_wp2_with fail
                go_roundw
                case rel => first
                  | exact ⟨m + 1, by omega, by rw [HY.out], by go_num, B9⟩
                  | ((repeat apply Exists.intro); exact ⟨⟨m + 1, by omega, by rw [HY.out], by go_num, B9⟩, rfl⟩)
                case measure => simp [intOf]; omega
              | true =>
                rw [if_pos rfl] at KI
                have pq : p < nq := HQL.out rfl
                have p0 : (0 : Int) ≤ (p : Int) := by omega
                have p1 : (p : Int) < (nq : Int) := by omega
                have p2 : (p : Int) ≤ (cq : Int) := by omega
                have p3 : decide ((p : Int) < 0) = false := by simp
                by_cases hkj : k = j
                · subst hkj
                  have HY : Hid (Lk.wait (T.take (m + 1)) (k : Int) (k : Int) = is) := by show _ = _; rw [HN1.out, HRW.out, if_pos (.inr rfl), Bool.or_false]
                  have e1 : ((k : Int) == (k : Int)) = true := by simp
                  clear HN1 HRW HQ HQL KH
                  go_wp2_with fail
                  rw [← HW8.out, ← HB8.out]
                  refine KI.out.mono ?_
                  rintro r w9 ⟨rfl, hb9⟩
                  obtain ⟨f0, f1, f2, f3⟩ := SB.out _ hb9
                  have B9 := hid (below_tr B8.out hb9)
                  clear hb9 KI d0 d1 d2
                  go_wp2_with fail
                  go_roundw
                  case rel => first
                    | exact ⟨m + 1, by omega, by rw [HY.out], by go_num, B9⟩
                    | ((repeat apply Exists.intro); exact ⟨⟨m + 1, by omega, by rw [HY.out], by go_num, B9⟩, rfl⟩)
                  case measure => simp [intOf]; omega
                · have e1 : ((k : Int) == (j : Int)) = false := by simp; omega
                  have e2 : (k == j) = false := by simpa using hkj
                  obtain ⟨l, hl, hlx, hlm⟩ := HQ.out rfl
                  obtain ⟨lx, mq⟩ := l
                  simp only at hlx hlm
                  subst hlx
                  have hmq : Lk.mode mq = true := HRr.out.rq.mode (List.mem_of_getElem? hl)
                  have HY : Hid (Lk.wait (T.take (m + 1)) (k : Int) (j : Int) = (is || (Lk.has (x.q.take p) (j : Int) || (Lk.has x.h (j : Int) && !Lk.fit (Lk.wish x.h ⟨(k : Int), mq⟩) (Lk.md x.h (j : Int)))))) := by
                    show _ = _
                    rw [HN1.out, HRW.out, if_neg (by simp; omega), hlm]
                  have KH2 := hid fun W (hW : Below W8.heap.size W8 W) => rholds_any W aq cq (x.q.take p) (j : Int) (((LQ.out.lk).below hW).take p) (by rw [List.length_take]; omega)
                  rw [show (x.q.take p).length = p from by rw [List.length_take]; have := HNQ.out; omega] at KH2
                  have P1 := Lk.md_pos (HRr.out.rq.sub (List.take_sublist p x.q)) (j : Int)
                  have P2 := Lk.md_pos HRr.out.rh (j : Int)
                  have KWi := hid fun W (hW : Below W8.heap.size W8 W) => rwish_any W (.int .i64 x.i) ah ch x.h (.slice aq nq cq) ⟨(k : Int), mq⟩ (LH.out.lk.below hW) (by omega) (fun l hl => HRr.out.rh.mode hl) hmq
                  rw [← HNH.out] at KWi
                  have KF := hid fun W u v => (rfits_any W u v).mono fun e w' (hh : _ ∧ w' = W) => (⟨hh.1, by rw [hh.2]; exact Below.refl _ _⟩ : e = .returned (.bool (Lk.fit u v)) ∧ Below W.heap.size W w')
                  obtain ⟨bq, oq, rfl, _, _⟩ := LQ.out.lk p _ hl
                  have HS : Hid (∀ W, Below W8.heap.size W8 W → W.cell? ⟨b8, 0, none⟩ = some (.int .i64 x.i) ∧ W.cell? ⟨b8, 1, none⟩ = some (.slice ah nh ch) ∧ W.cell? ⟨b8, 2, none⟩ = some (.slice (some ⟨bq, oq, none⟩) nq cq) ∧ W.cell? ⟨bq, oq + p * 2, none⟩ = some (.int .i64 (k : Int)) ∧ W.cell? ⟨bq, oq + p * 2 + 1, none⟩ = some (.int .i64 mq)) := fun W hW => by
                    obtain ⟨f0, f1, f2, _⟩ := SB.out W hW
                    obtain ⟨_, _, ee, e1, e2⟩ := ((LQ.out.lk).below hW) p _ hl
                    cases ee
                    exact ⟨f0, f1, f2, e1, e2⟩
                  generalize Lk.has (x.q.take p) (j : Int) = g1 at *
                  generalize Lk.md (x.q.take p) (j : Int) = md1 at *
                  generalize Lk.has x.h (j : Int) = g2 at *
                  generalize Lk.md x.h (j : Int) = md2 at *
                  generalize Lk.wish x.h ⟨(k : Int), mq⟩ = y at *
                  generalize x.i = xi at *
                  clear HN1 HRW HQ HQL hl LH LQ HNH HNQ HRr hlm
                  go_wp2_with fail
                  rw [← HW8.out, ← HB8.out]
                  refine KI.out.mono ?_
                  rintro r w9 ⟨rfl, hb9⟩
                  obtain ⟨f0, f1, f2, f3⟩ := SB.out _ hb9
                  have B9 := hid hb9
                  clear hb9 KI d0 d1 d2
                  go_wp2_with fail
                  refine (KH.out _ B9.out).mono ?_
                  rintro r w10 ⟨rfl, hb10⟩
                  have B10 := hid (below_tr B9.out hb10)
                  clear hb10 KH B9 f0 f1 f2 f3
                  go_upto_region 15 with fail
                  have BD : Below W8.heap.size W8 w10.drew := below_tr B10.out (Below.refl _ _).drew
                  refine wp_region_held_drew (S := fun W => W.cell? ⟨b8, 0, none⟩ = some (.int .i64 xi) ∧ W.cell? ⟨b8, 1, none⟩ = some (.slice ah nh ch) ∧ W.cell? ⟨b8, 2, none⟩ = some (.slice (some ⟨bq, oq, none⟩) nq cq) ∧ W.cell? ⟨bq, oq + p * 2, none⟩ = some (.int .i64 (k : Int)) ∧ W.cell? ⟨bq, oq + p * 2 + 1, none⟩ = some (.int .i64 mq)) (by kernel_rfl) (HS.out _ BD) (fun hHeld => ?_)
                  refine wpAnyH_take (i := 0) (v := ?tv1) rfl (by kernel_rfl) (by kernel_rfl) (by kernel_rfl) (fun _ _ _ h => h) (Or.inl ⟨by rfl, ?th1⟩) (by assumption) ?tr1
                  case th1 => (intro w hSw; (try dsimp only at hSw); go_simp; all_goals (with_reducible rfl))
                  simp only [Act.put, List.getElem_toArray, List.getElem_cons_zero, List.setIfInBounds_toArray, List.set_cons_zero, List.set_cons_succ]
                  refine wpAnyH_take (i := 1) (v := ?tv2) rfl (by kernel_rfl) (by kernel_rfl) (by kernel_rfl) (fun _ _ _ h => h) (Or.inl ⟨by rfl, ?th2⟩) (by assumption) ?tr2
                  case th2 => (intro w hSw; (try dsimp only at hSw); go_simp; all_goals (with_reducible rfl))
                  simp only [Act.put, List.getElem_toArray, List.getElem_cons_zero, List.getElem_cons_succ, List.setIfInBounds_toArray, List.set_cons_zero, List.set_cons_succ]
                  cases is with
                  | true =>
                    refine wpAnyH_take (i := 2) (v := undef) rfl (by kernel_rfl) (by kernel_rfl) (by kernel_rfl) (fun _ _ _ h => h) (Or.inr ⟨by rfl, rfl⟩) (by assumption) ?_
                    try simp only [Act.put, List.getElem_toArray, List.getElem_cons_zero, List.getElem_cons_succ, List.setIfInBounds_toArray, List.set_cons_zero, List.set_cons_succ]
                    refine wpAnyH_take (i := 3) (v := undef) rfl (by kernel_rfl) (by kernel_rfl) (by kernel_rfl) (fun _ _ _ h => h) (Or.inr ⟨by rfl, rfl⟩) (by assumption) ?_
                    try simp only [Act.put, List.getElem_toArray, List.getElem_cons_zero, List.getElem_cons_succ, List.setIfInBounds_toArray, List.set_cons_zero, List.set_cons_succ]
                    refine wpAnyH_take (i := 4) (v := undef) rfl (by kernel_rfl) (by kernel_rfl) (by kernel_rfl) (fun _ _ _ h => h) (Or.inr ⟨by rfl, rfl⟩) (by assumption) ?_
                    try simp only [Act.put, List.getElem_toArray, List.getElem_cons_zero, List.getElem_cons_succ, List.setIfInBounds_toArray, List.set_cons_zero, List.set_cons_succ]
                    refine wpAnyH_take (i := 5) (v := undef) rfl (by kernel_rfl) (by kernel_rfl) (by kernel_rfl) (fun _ _ _ h => h) (Or.inr ⟨by rfl, rfl⟩) (by assumption) ?_
                    try simp only [Act.put, List.getElem_toArray, List.getElem_cons_zero, List.getElem_cons_succ, List.setIfInBounds_toArray, List.set_cons_zero, List.set_cons_succ]
                    refine wpAnyH_take (i := 6) (v := undef) rfl (by kernel_rfl) (by kernel_rfl) (by kernel_rfl) (fun _ _ _ h => h) (Or.inr ⟨by rfl, rfl⟩) (by assumption) ?_
                    try simp only [Act.put, List.getElem_toArray, List.getElem_cons_zero, List.getElem_cons_succ, List.setIfInBounds_toArray, List.set_cons_zero, List.set_cons_succ]
                    refine wpAnyH_take (i := 7) (v := undef) rfl (by kernel_rfl) (by kernel_rfl) (by kernel_rfl) (fun _ _ _ h => h) (Or.inr ⟨by rfl, rfl⟩) (by assumption) ?_
                    try simp only [Act.put, List.getElem_toArray, List.getElem_cons_zero, List.getElem_cons_succ, List.setIfInBounds_toArray, List.set_cons_zero, List.set_cons_succ]
                    refine wpAnyH_take (i := 8) (v := undef) rfl (by kernel_rfl) (by kernel_rfl) (by kernel_rfl) (fun _ _ _ h => h) (Or.inr ⟨by rfl, rfl⟩) (by assumption) ?_
                    try simp only [Act.put, List.getElem_toArray, List.getElem_cons_zero, List.getElem_cons_succ, List.setIfInBounds_toArray, List.set_cons_zero, List.set_cons_succ]
                    refine wpAnyH_take (i := 9) (v := ?tv3) rfl (by kernel_rfl) (by kernel_rfl) (by kernel_rfl) (fun _ _ _ h => h) (Or.inl ⟨by rfl, ?th3⟩) (by assumption) ?tr3
                    case th3 => (intro w hSw; (try dsimp only at hSw); go_simp; all_goals (with_reducible rfl))
                    simp only [Act.put, List.getElem_toArray, List.getElem_cons_zero, List.getElem_cons_succ, List.setIfInBounds_toArray, List.set_cons_zero, List.set_cons_succ]
                    refine wpAnyH_take (i := 10) (v := ?tv4) rfl (by kernel_rfl) (by kernel_rfl) (by kernel_rfl) (fun _ _ _ h => h) (Or.inl ⟨by rfl, ?th4⟩) (by assumption) ?tr4
                    case th4 => (intro w hSw; (try dsimp only at hSw); go_simp; all_goals (with_reducible rfl))
                    simp only [Act.put, List.getElem_toArray, List.getElem_cons_zero, List.getElem_cons_succ, List.setIfInBounds_toArray, List.set_cons_zero, List.set_cons_succ]
                    refine wpAnyH_take (i := 11) (v := undef) rfl (by kernel_rfl) (by kernel_rfl) (by kernel_rfl) (fun _ _ _ h => h) (Or.inr ⟨by rfl, rfl⟩) (by assumption) ?_
                    try simp only [Act.put, List.getElem_toArray, List.getElem_cons_zero, List.getElem_cons_succ, List.setIfInBounds_toArray, List.set_cons_zero, List.set_cons_succ]
                    refine wpAnyH_take (i := 12) (v := undef) rfl (by kernel_rfl) (by kernel_rfl) (by kernel_rfl) (fun _ _ _ h => h) (Or.inr ⟨by rfl, rfl⟩) (by assumption) ?_
                    try simp only [Act.put, List.getElem_toArray, List.getElem_cons_zero, List.getElem_cons_succ, List.setIfInBounds_toArray, List.set_cons_zero, List.set_cons_succ]
                    refine wpAnyH_take (i := 13) (v := undef) rfl (by kernel_rfl) (by kernel_rfl) (by kernel_rfl) (fun _ _ _ h => h) (Or.inr ⟨by rfl, rfl⟩) (by assumption) ?_
                    try simp only [Act.put, List.getElem_toArray, List.getElem_cons_zero, List.getElem_cons_succ, List.setIfInBounds_toArray, List.set_cons_zero, List.set_cons_succ]
                    refine wpAnyH_take (i := 14) (v := undef) rfl (by kernel_rfl) (by kernel_rfl) (by kernel_rfl) (fun _ _ _ h => h) (Or.inr ⟨by rfl, rfl⟩) (by assumption) ?_
                    try simp only [Act.put, List.getElem_toArray, List.getElem_cons_zero, List.getElem_cons_succ, List.setIfInBounds_toArray, List.set_cons_zero, List.set_cons_succ]
                    refine wpAnyH_take (i := 15) (v := undef) rfl (by kernel_rfl) (by kernel_rfl) (by kernel_rfl) (fun _ _ _ h => h) (Or.inr ⟨by rfl, rfl⟩) (by assumption) ?_
                    try simp only [Act.put, List.getElem_toArray, List.getElem_cons_zero, List.getElem_cons_succ, List.setIfInBounds_toArray, List.set_cons_zero, List.set_cons_succ]
                    refine wpAnyH_take (i := 16) (v := undef) rfl (by kernel_rfl) (by kernel_rfl) (by kernel_rfl) (fun _ _ _ h => h) (Or.inr ⟨by rfl, rfl⟩) (by assumption) ?_
                    try simp only [Act.put, List.getElem_toArray, List.getElem_cons_zero, List.getElem_cons_succ, List.setIfInBounds_toArray, List.set_cons_zero, List.set_cons_succ]
                    refine wpAnyH_take (i := 17) (v := undef) rfl (by kernel_rfl) (by kernel_rfl) (by kernel_rfl) (fun _ _ _ h => h) (Or.inr ⟨by rfl, rfl⟩) (by assumption) ?_
                    try simp only [Act.put, List.getElem_toArray, List.getElem_cons_zero, List.getElem_cons_succ, List.setIfInBounds_toArray, List.set_cons_zero, List.set_cons_succ]
                    refine wpAnyH_take (i := 18) (v := undef) rfl (by kernel_rfl) (by kernel_rfl) (by kernel_rfl) (fun _ _ _ h => h) (Or.inr ⟨by rfl, rfl⟩) (by assumption) ?_
                    try simp only [Act.put, List.getElem_toArray, List.getElem_cons_zero, List.getElem_cons_succ, List.setIfInBounds_toArray, List.set_cons_zero, List.set_cons_succ]
                    refine wpAnyH_take (i := 19) (v := undef) rfl (by kernel_rfl) (by kernel_rfl) (by kernel_rfl) (fun _ _ _ h => h) (Or.inr ⟨by rfl, rfl⟩) (by assumption) ?_
                    try simp only [Act.put, List.getElem_toArray, List.getElem_cons_zero, List.getElem_cons_succ, List.setIfInBounds_toArray, List.set_cons_zero, List.set_cons_succ]
                    refine wpAnyH_take (i := 20) (v := undef) rfl (by kernel_rfl) (by kernel_rfl) (by kernel_rfl) (fun _ _ _ h => h) (Or.inr ⟨by rfl, rfl⟩) (by assumption) ?_
                    try simp only [Act.put, List.getElem_toArray, List.getElem_cons_zero, List.getElem_cons_succ, List.setIfInBounds_toArray, List.set_cons_zero, List.set_cons_succ]
                    refine wpAnyH_take (i := 21) (v := undef) rfl (by kernel_rfl) (by kernel_rfl) (by kernel_rfl) (fun _ _ _ h => h) (Or.inr ⟨by rfl, rfl⟩) (by assumption) ?_
                    try simp only [Act.put, List.getElem_toArray, List.getElem_cons_zero, List.getElem_cons_succ, List.setIfInBounds_toArray, List.set_cons_zero, List.set_cons_succ]
                    refine wpAnyH_take (i := 22) (v := undef) rfl (by kernel_rfl) (by kernel_rfl) (by kernel_rfl) (fun _ _ _ h => h) (Or.inr ⟨by rfl, rfl⟩) (by assumption) ?_
                    try simp only [Act.put, List.getElem_toArray, List.getElem_cons_zero, List.getElem_cons_succ, List.setIfInBounds_toArray, List.set_cons_zero, List.set_cons_succ]
                    refine wpAnyH_take (i := 23) (v := undef) rfl (by kernel_rfl) (by kernel_rfl) (by kernel_rfl) (fun _ _ _ h => h) (Or.inr ⟨by rfl, rfl⟩) (by assumption) ?_
                    try simp only [Act.put, List.getElem_toArray, List.getElem_cons_zero, List.getElem_cons_succ, List.setIfInBounds_toArray, List.set_cons_zero, List.set_cons_succ]
                    refine wpAnyH_take (i := 24) (v := undef) rfl (by kernel_rfl) (by kernel_rfl) (by kernel_rfl) (fun _ _ _ h => h) (Or.inr ⟨by rfl, rfl⟩) (by assumption) ?_
                    try simp only [Act.put, List.getElem_toArray, List.getElem_cons_zero, List.getElem_cons_succ, List.setIfInBounds_toArray, List.set_cons_zero, List.set_cons_succ]
                    refine wpAnyH_take (i := 25) (v := ?tv5) rfl (by kernel_rfl) (by kernel_rfl) (by kernel_rfl) (fun _ _ _ h => h) (Or.inl ⟨by rfl, ?th5⟩) (by assumption) ?tr5
                    case th5 => (intro w hSw; (try dsimp only at hSw); go_simp; all_goals (with_reducible rfl))
                    simp only [Act.put, List.getElem_toArray, List.getElem_cons_zero, List.getElem_cons_succ, List.setIfInBounds_toArray, List.set_cons_zero, List.set_cons_succ]
                    refine wpAnyH_take (i := 26) (v := ?tv6) rfl (by kernel_rfl) (by kernel_rfl) (by kernel_rfl) (fun _ _ _ h => h) (Or.inl ⟨by rfl, ?th6⟩) (by assumption) ?tr6
                    case th6 => (intro w hSw; (try dsimp only at hSw); go_simp; all_goals (with_reducible rfl))
                    simp only [Act.put, List.getElem_toArray, List.getElem_cons_zero, List.getElem_cons_succ, List.setIfInBounds_toArray, List.set_cons_zero, List.set_cons_succ]
                    refine wpAnyH_done (by kernel_rfl) ?_ _
                    have HZ : Hid (Lk.wait (T.take (m + 1)) (k : Int) (j : Int) = true) := HY.out.trans (by simp)
                    have B11 := hid (below_tr B8.out BD)
                    clear HS KWi KF KH2 SB P1 P2 HY
                    go_wp2_with fail
                    go_roundw
                    case rel => first
                      | exact ⟨m + 1, by omega, by rw [HZ.out], by go_num, B11⟩
                      | ((repeat apply Exists.intro); exact ⟨⟨m + 1, by omega, by rw [HZ.out], by go_num, B11⟩, rfl⟩)
                    case measure => simp [intOf]; omega
                  | false =>
                    refine wpAnyH_take (i := 2) (v := ?tv7) rfl (by kernel_rfl) (by kernel_rfl) (by kernel_rfl) (fun _ _ _ h => h) (Or.inl ⟨by rfl, ?th7⟩) (by assumption) ?tr7
                    case th7 => (intro w hSw; (try dsimp only at hSw); go_simp; all_goals (with_reducible rfl))
                    simp only [Act.put, List.getElem_toArray, List.getElem_cons_zero, List.getElem_cons_succ, List.setIfInBounds_toArray, List.set_cons_zero, List.set_cons_succ]
                    refine wpAnyH_take (i := 3) (v := ?tv8) rfl (by kernel_rfl) (by kernel_rfl) (by kernel_rfl) (fun _ _ _ h => h) (Or.inl ⟨by rfl, ?th8⟩) (by assumption) ?tr8
                    case th8 => (intro w hSw; (try dsimp only at hSw); go_simp; all_goals (with_reducible rfl))
                    simp only [Act.put, List.getElem_toArray, List.getElem_cons_zero, List.getElem_cons_succ, List.setIfInBounds_toArray, List.set_cons_zero, List.set_cons_succ]
                    refine wpAnyH_take (i := 4) (v := ?tv9) rfl (by kernel_rfl) (by kernel_rfl) (by kernel_rfl) (fun _ _ _ h => h) (Or.inl ⟨by rfl, ?th9⟩) (by assumption) ?tr9
                    case th9 => (intro w hSw; (try dsimp only at hSw); go_simp; all_goals (with_reducible rfl))
                    simp only [Act.put, List.getElem_toArray, List.getElem_cons_zero, List.getElem_cons_succ, List.setIfInBounds_toArray, List.set_cons_zero, List.set_cons_succ]
                    refine wpAnyH_take (i := 5) (v := ?tv10) rfl (by kernel_rfl) (by kernel_rfl) (by kernel_rfl) (fun _ _ _ h => h) (Or.inl ⟨by rfl, ?th10⟩) (by assumption) ?tr10
                    case th10 => (intro w hSw; (try dsimp only at hSw); go_simp; all_goals (with_reducible rfl))
                    simp only [Act.put, List.getElem_toArray, List.getElem_cons_zero, List.getElem_cons_succ, List.setIfInBounds_toArray, List.set_cons_zero, List.set_cons_succ]
                    refine wpAnyH_take (i := 6) (v := ?tv11) rfl (by kernel_rfl) (by kernel_rfl) (by kernel_rfl) (fun _ _ _ h => h) (Or.inl ⟨by rfl, ?th11⟩) (by assumption) ?tr11
                    case th11 => (intro w hSw; (try dsimp only at hSw); go_simp; all_goals (with_reducible rfl))
                    simp only [Act.put, List.getElem_toArray, List.getElem_cons_zero, List.getElem_cons_succ, List.setIfInBounds_toArray, List.set_cons_zero, List.set_cons_succ]
                    refine wpAnyH_ready (rs := [7]) (by kernel_rfl) (by simp) ?_
                    refine AllReadyH.cons rfl (fun K hK => ?_) AllReadyH.nil
                    go_simp
                    refine (KH2.out _ BD).mono ?_
                    rintro r v7 ⟨rfl, hv7⟩
                    have BE : Below W8.heap.size W8 v7 := below_tr BD hv7
                    clear hv7
                    refine hK.out _ _ (HS.out _ BE) (fun hHeld => ?_)
                    clear hK K
                    try simp only [Act.put, List.getElem_toArray, List.getElem_cons_zero, List.getElem_cons_succ, List.setIfInBounds_toArray, List.set_cons_zero, List.set_cons_succ]
                    refine wpAnyH_take (i := 8) (v := ?tv12) rfl (by kernel_rfl) (by kernel_rfl) (by kernel_rfl) (fun _ _ _ h => h) (Or.inl ⟨by rfl, ?th12⟩) (by assumption) ?tr12
                    case th12 => (intro w hSw; (try dsimp only at hSw); go_simp; all_goals (with_reducible rfl))
                    simp only [Act.put, List.getElem_toArray, List.getElem_cons_zero, List.getElem_cons_succ, List.setIfInBounds_toArray, List.set_cons_zero, List.set_cons_succ]
                    try simp only [P1]
                    cases g1 with
                    | true =>
                      refine wpAnyH_take (i := 9) (v := ?tv13) rfl (by kernel_rfl) (by kernel_rfl) (by kernel_rfl) (fun _ _ _ h => h) (Or.inl ⟨by rfl, ?th13⟩) (by assumption) ?tr13
                      case th13 => (intro w hSw; (try dsimp only at hSw); go_simp; all_goals (with_reducible rfl))
                      simp only [Act.put, List.getElem_toArray, List.getElem_cons_zero, List.getElem_cons_succ, List.setIfInBounds_toArray, List.set_cons_zero, List.set_cons_succ]
                      refine wpAnyH_take (i := 10) (v := ?tv14) rfl (by kernel_rfl) (by kernel_rfl) (by kernel_rfl) (fun _ _ _ h => h) (Or.inl ⟨by rfl, ?th14⟩) (by assumption) ?tr14
                      case th14 => (intro w hSw; (try dsimp only at hSw); go_simp; all_goals (with_reducible rfl))
                      simp only [Act.put, List.getElem_toArray, List.getElem_cons_zero, List.getElem_cons_succ, List.setIfInBounds_toArray, List.set_cons_zero, List.set_cons_succ]
                      refine wpAnyH_take (i := 11) (v := undef) rfl (by kernel_rfl) (by kernel_rfl) (by kernel_rfl) (fun _ _ _ h => h) (Or.inr ⟨by rfl, rfl⟩) (by assumption) ?_
                      try simp only [Act.put, List.getElem_toArray, List.getElem_cons_zero, List.getElem_cons_succ, List.setIfInBounds_toArray, List.set_cons_zero, List.set_cons_succ]
                      refine wpAnyH_take (i := 12) (v := undef) rfl (by kernel_rfl) (by kernel_rfl) (by kernel_rfl) (fun _ _ _ h => h) (Or.inr ⟨by rfl, rfl⟩) (by assumption) ?_
                      try simp only [Act.put, List.getElem_toArray, List.getElem_cons_zero, List.getElem_cons_succ, List.setIfInBounds_toArray, List.set_cons_zero, List.set_cons_succ]
                      refine wpAnyH_take (i := 13) (v := undef) rfl (by kernel_rfl) (by kernel_rfl) (by kernel_rfl) (fun _ _ _ h => h) (Or.inr ⟨by rfl, rfl⟩) (by assumption) ?_
                      try simp only [Act.put, List.getElem_toArray, List.getElem_cons_zero, List.getElem_cons_succ, List.setIfInBounds_toArray, List.set_cons_zero, List.set_cons_succ]
                      refine wpAnyH_take (i := 14) (v := undef) rfl (by kernel_rfl) (by kernel_rfl) (by kernel_rfl) (fun _ _ _ h => h) (Or.inr ⟨by rfl, rfl⟩) (by assumption) ?_
                      try simp only [Act.put, List.getElem_toArray, List.getElem_cons_zero, List.getElem_cons_succ, List.setIfInBounds_toArray, List.set_cons_zero, List.set_cons_succ]
                      refine wpAnyH_take (i := 15) (v := undef) rfl (by kernel_rfl) (by kernel_rfl) (by kernel_rfl) (fun _ _ _ h => h) (Or.inr ⟨by rfl, rfl⟩) (by assumption) ?_
                      try simp only [Act.put, List.getElem_toArray, List.getElem_cons_zero, List.getElem_cons_succ, List.setIfInBounds_toArray, List.set_cons_zero, List.set_cons_succ]
                      refine wpAnyH_take (i := 16) (v := undef) rfl (by kernel_rfl) (by kernel_rfl) (by kernel_rfl) (fun _ _ _ h => h) (Or.inr ⟨by rfl, rfl⟩) (by assumption) ?_
                      try simp only [Act.put, List.getElem_toArray, List.getElem_cons_zero, List.getElem_cons_succ, List.setIfInBounds_toArray, List.set_cons_zero, List.set_cons_succ]
                      refine wpAnyH_take (i := 17) (v := undef) rfl (by kernel_rfl) (by kernel_rfl) (by kernel_rfl) (fun _ _ _ h => h) (Or.inr ⟨by rfl, rfl⟩) (by assumption) ?_
                      try simp only [Act.put, List.getElem_toArray, List.getElem_cons_zero, List.getElem_cons_succ, List.setIfInBounds_toArray, List.set_cons_zero, List.set_cons_succ]
                      refine wpAnyH_take (i := 18) (v := undef) rfl (by kernel_rfl) (by kernel_rfl) (by kernel_rfl) (fun _ _ _ h => h) (Or.inr ⟨by rfl, rfl⟩) (by assumption) ?_
                      try simp only [Act.put, List.getElem_toArray, List.getElem_cons_zero, List.getElem_cons_succ, List.setIfInBounds_toArray, List.set_cons_zero, List.set_cons_succ]
                      refine wpAnyH_take (i := 19) (v := undef) rfl (by kernel_rfl) (by kernel_rfl) (by kernel_rfl) (fun _ _ _ h => h) (Or.inr ⟨by rfl, rfl⟩) (by assumption) ?_
                      try simp only [Act.put, List.getElem_toArray, List.getElem_cons_zero, List.getElem_cons_succ, List.setIfInBounds_toArray, List.set_cons_zero, List.set_cons_succ]
                      refine wpAnyH_take (i := 20) (v := undef) rfl (by kernel_rfl) (by kernel_rfl) (by kernel_rfl) (fun _ _ _ h => h) (Or.inr ⟨by rfl, rfl⟩) (by assumption) ?_
                      try simp only [Act.put, List.getElem_toArray, List.getElem_cons_zero, List.getElem_cons_succ, List.setIfInBounds_toArray, List.set_cons_zero, List.set_cons_succ]
                      refine wpAnyH_take (i := 21) (v := undef) rfl (by kernel_rfl) (by kernel_rfl) (by kernel_rfl) (fun _ _ _ h => h) (Or.inr ⟨by rfl, rfl⟩) (by assumption) ?_
                      try simp only [Act.put, List.getElem_toArray, List.getElem_cons_zero, List.getElem_cons_succ, List.setIfInBounds_toArray, List.set_cons_zero, List.set_cons_succ]
                      refine wpAnyH_take (i := 22) (v := undef) rfl (by kernel_rfl) (by kernel_rfl) (by kernel_rfl) (fun _ _ _ h => h) (Or.inr ⟨by rfl, rfl⟩) (by assumption) ?_
                      try simp only [Act.put, List.getElem_toArray, List.getElem_cons_zero, List.getElem_cons_succ, List.setIfInBounds_toArray, List.set_cons_zero, List.set_cons_succ]
                      refine wpAnyH_take (i := 23) (v := undef) rfl (by kernel_rfl) (by kernel_rfl) (by kernel_rfl) (fun _ _ _ h => h) (Or.inr ⟨by rfl, rfl⟩) (by assumption) ?_
                      try simp only [Act.put, List.getElem_toArray, List.getElem_cons_zero, List.getElem_cons_succ, List.setIfInBounds_toArray, List.set_cons_zero, List.set_cons_succ]
                      refine wpAnyH_take (i := 24) (v := undef) rfl (by kernel_rfl) (by kernel_rfl) (by kernel_rfl) (fun _ _ _ h => h) (Or.inr ⟨by rfl, rfl⟩) (by assumption) ?_
                      try simp only [Act.put, List.getElem_toArray, List.getElem_cons_zero, List.getElem_cons_succ, List.setIfInBounds_toArray, List.set_cons_zero, List.set_cons_succ]
                      refine wpAnyH_take (i := 25) (v := ?tv15) rfl (by kernel_rfl) (by kernel_rfl) (by kernel_rfl) (fun _ _ _ h => h) (Or.inl ⟨by rfl, ?th15⟩) (by assumption) ?tr15
                      case th15 => (intro w hSw; (try dsimp only at hSw); go_simp; all_goals (with_reducible rfl))
                      simp only [Act.put, List.getElem_toArray, List.getElem_cons_zero, List.getElem_cons_succ, List.setIfInBounds_toArray, List.set_cons_zero, List.set_cons_succ]
                      refine wpAnyH_take (i := 26) (v := ?tv16) rfl (by kernel_rfl) (by kernel_rfl) (by kernel_rfl) (fun _ _ _ h => h) (Or.inl ⟨by rfl, ?th16⟩) (by assumption) ?tr16
                      case th16 => (intro w hSw; (try dsimp only at hSw); go_simp; all_goals (with_reducible rfl))
                      simp only [Act.put, List.getElem_toArray, List.getElem_cons_zero, List.getElem_cons_succ, List.setIfInBounds_toArray, List.set_cons_zero, List.set_cons_succ]
                      refine wpAnyH_done (by kernel_rfl) ?_ _
                      have HZ : Hid (Lk.wait (T.take (m + 1)) (k : Int) (j : Int) = true) := HY.out.trans (by simp)
                      have B11 := hid (below_tr B8.out BE)
                      clear HS KWi KF KH2 SB P1 P2 HY
                      go_wp2_with fail
                      go_roundw
                      case rel => first
                        | exact ⟨m + 1, by omega, by rw [HZ.out], by go_num, B11⟩
                        | ((repeat apply Exists.intro); exact ⟨⟨m + 1, by omega, by rw [HZ.out], by go_num, B11⟩, rfl⟩)
                      case measure => simp [intOf]; omega
                    | false =>
                      refine wpAnyH_take (i := 9) (v := ?tv17) rfl (by kernel_rfl) (by kernel_rfl) (by kernel_rfl) (fun _ _ _ h => h) (Or.inl ⟨by rfl, ?th17⟩) (by assumption) ?tr17
                      case th17 => (intro w hSw; (try dsimp only at hSw); go_simp; all_goals (with_reducible rfl))
                      simp only [Act.put, List.getElem_toArray, List.getElem_cons_zero, List.getElem_cons_succ, List.setIfInBounds_toArray, List.set_cons_zero, List.set_cons_succ]
                      refine wpAnyH_take (i := 10) (v := ?tv18) rfl (by kernel_rfl) (by kernel_rfl) (by kernel_rfl) (fun _ _ _ h => h) (Or.inl ⟨by rfl, ?th18⟩) (by assumption) ?tr18
                      case th18 => (intro w hSw; (try dsimp only at hSw); go_simp; all_goals (with_reducible rfl))
                      simp only [Act.put, List.getElem_toArray, List.getElem_cons_zero, List.getElem_cons_succ, List.setIfInBounds_toArray, List.set_cons_zero, List.set_cons_succ]
                      refine wpAnyH_take (i := 11) (v := ?tv19) rfl (by kernel_rfl) (by kernel_rfl) (by kernel_rfl) (fun _ _ _ h => h) (Or.inl ⟨by rfl, ?th19⟩) (by assumption) ?tr19
                      case th19 => (intro w hSw; (try dsimp only at hSw); go_simp; all_goals (with_reducible rfl))
                      simp only [Act.put, List.getElem_toArray, List.getElem_cons_zero, List.getElem_cons_succ, List.setIfInBounds_toArray, List.set_cons_zero, List.set_cons_succ]
                      refine wpAnyH_take (i := 12) (v := ?tv20) rfl (by kernel_rfl) (by kernel_rfl) (by kernel_rfl) (fun _ _ _ h => h) (Or.inl ⟨by rfl, ?th20⟩) (by assumption) ?tr20
                      case th20 => (intro w hSw; (try dsimp only at hSw); go_simp; all_goals (with_reducible rfl))
                      simp only [Act.put, List.getElem_toArray, List.getElem_cons_zero, List.getElem_cons_succ, List.setIfInBounds_toArray, List.set_cons_zero, List.set_cons_succ]
                      try simp only [P2]
                      refine wpAnyH_take (i := 13) (v := ?tv21) rfl (by kernel_rfl) (by kernel_rfl) (by kernel_rfl) (fun _ _ _ h => h) (Or.inl ⟨by rfl, ?th21⟩) (by assumption) ?tr21
                      case th21 => (intro w hSw; (try dsimp only at hSw); go_simp; all_goals (with_reducible rfl))
                      simp only [Act.put, List.getElem_toArray, List.getElem_cons_zero, List.getElem_cons_succ, List.setIfInBounds_toArray, List.set_cons_zero, List.set_cons_succ]
                      cases g2 with
                      | false =>
                        refine wpAnyH_take (i := 14) (v := undef) rfl (by kernel_rfl) (by kernel_rfl) (by kernel_rfl) (fun _ _ _ h => h) (Or.inr ⟨by rfl, rfl⟩) (by assumption) ?_
                        try simp only [Act.put, List.getElem_toArray, List.getElem_cons_zero, List.getElem_cons_succ, List.setIfInBounds_toArray, List.set_cons_zero, List.set_cons_succ]
                        refine wpAnyH_take (i := 15) (v := undef) rfl (by kernel_rfl) (by kernel_rfl) (by kernel_rfl) (fun _ _ _ h => h) (Or.inr ⟨by rfl, rfl⟩) (by assumption) ?_
                        try simp only [Act.put, List.getElem_toArray, List.getElem_cons_zero, List.getElem_cons_succ, List.setIfInBounds_toArray, List.set_cons_zero, List.set_cons_succ]
                        refine wpAnyH_take (i := 16) (v := undef) rfl (by kernel_rfl) (by kernel_rfl) (by kernel_rfl) (fun _ _ _ h => h) (Or.inr ⟨by rfl, rfl⟩) (by assumption) ?_
                        try simp only [Act.put, List.getElem_toArray, List.getElem_cons_zero, List.getElem_cons_succ, List.setIfInBounds_toArray, List.set_cons_zero, List.set_cons_succ]
                        refine wpAnyH_take (i := 17) (v := undef) rfl (by kernel_rfl) (by kernel_rfl) (by kernel_rfl) (fun _ _ _ h => h) (Or.inr ⟨by rfl, rfl⟩) (by assumption) ?_
                        try simp only [Act.put, List.getElem_toArray, List.getElem_cons_zero, List.getElem_cons_succ, List.setIfInBounds_toArray, List.set_cons_zero, List.set_cons_succ]
                        refine wpAnyH_take (i := 18) (v := undef) rfl (by kernel_rfl) (by kernel_rfl) (by kernel_rfl) (fun _ _ _ h => h) (Or.inr ⟨by rfl, rfl⟩) (by assumption) ?_
                        try simp only [Act.put, List.getElem_toArray, List.getElem_cons_zero, List.getElem_cons_succ, List.setIfInBounds_toArray, List.set_cons_zero, List.set_cons_succ]
                        refine wpAnyH_take (i := 19) (v := undef) rfl (by kernel_rfl) (by kernel_rfl) (by kernel_rfl) (fun _ _ _ h => h) (Or.inr ⟨by rfl, rfl⟩) (by assumption) ?_
                        try simp only [Act.put, List.getElem_toArray, List.getElem_cons_zero, List.getElem_cons_succ, List.setIfInBounds_toArray, List.set_cons_zero, List.set_cons_succ]
                        refine wpAnyH_take (i := 20) (v := undef) rfl (by kernel_rfl) (by kernel_rfl) (by kernel_rfl) (fun _ _ _ h => h) (Or.inr ⟨by rfl, rfl⟩) (by assumption) ?_
                        try simp only [Act.put, List.getElem_toArray, List.getElem_cons_zero, List.getElem_cons_succ, List.setIfInBounds_toArray, List.set_cons_zero, List.set_cons_succ]
                        refine wpAnyH_take (i := 21) (v := undef) rfl (by kernel_rfl) (by kernel_rfl) (by kernel_rfl) (fun _ _ _ h => h) (Or.inr ⟨by rfl, rfl⟩) (by assumption) ?_
                        try simp only [Act.put, List.getElem_toArray, List.getElem_cons_zero, List.getElem_cons_succ, List.setIfInBounds_toArray, List.set_cons_zero, List.set_cons_succ]
                        refine wpAnyH_take (i := 22) (v := undef) rfl (by kernel_rfl) (by kernel_rfl) (by kernel_rfl) (fun _ _ _ h => h) (Or.inr ⟨by rfl, rfl⟩) (by assumption) ?_
                        try simp only [Act.put, List.getElem_toArray, List.getElem_cons_zero, List.getElem_cons_succ, List.setIfInBounds_toArray, List.set_cons_zero, List.set_cons_succ]
                        refine wpAnyH_take (i := 23) (v := undef) rfl (by kernel_rfl) (by kernel_rfl) (by kernel_rfl) (fun _ _ _ h => h) (Or.inr ⟨by rfl, rfl⟩) (by assumption) ?_
                        try simp only [Act.put, List.getElem_toArray, List.getElem_cons_zero, List.getElem_cons_succ, List.setIfInBounds_toArray, List.set_cons_zero, List.set_cons_succ]
                        refine wpAnyH_take (i := 24) (v := ?tv22) rfl (by kernel_rfl) (by kernel_rfl) (by kernel_rfl) (fun _ _ _ h => h) (Or.inl ⟨by rfl, ?th22⟩) (by assumption) ?tr22
                        case th22 => (intro w hSw; (try dsimp only at hSw); go_simp; all_goals (with_reducible rfl))
                        simp only [Act.put, List.getElem_toArray, List.getElem_cons_zero, List.getElem_cons_succ, List.setIfInBounds_toArray, List.set_cons_zero, List.set_cons_succ]
                        refine wpAnyH_take (i := 25) (v := ?tv23) rfl (by kernel_rfl) (by kernel_rfl) (by kernel_rfl) (fun _ _ _ h => h) (Or.inl ⟨by rfl, ?th23⟩) (by assumption) ?tr23
                        case th23 => (intro w hSw; (try dsimp only at hSw); go_simp; all_goals (with_reducible rfl))
                        simp only [Act.put, List.getElem_toArray, List.getElem_cons_zero, List.getElem_cons_succ, List.setIfInBounds_toArray, List.set_cons_zero, List.set_cons_succ]
                        refine wpAnyH_take (i := 26) (v := ?tv24) rfl (by kernel_rfl) (by kernel_rfl) (by kernel_rfl) (fun _ _ _ h => h) (Or.inl ⟨by rfl, ?th24⟩) (by assumption) ?tr24
                        case th24 => (intro w hSw; (try dsimp only at hSw); go_simp; all_goals (with_reducible rfl))
                        simp only [Act.put, List.getElem_toArray, List.getElem_cons_zero, List.getElem_cons_succ, List.setIfInBounds_toArray, List.set_cons_zero, List.set_cons_succ]
                        refine wpAnyH_done (by kernel_rfl) ?_ _
                        have HZ : Hid (Lk.wait (T.take (m + 1)) (k : Int) (j : Int) = false) := HY.out.trans (by simp)
                        have B11 := hid (below_tr B8.out BE)
                        clear HS KWi KF KH2 SB P1 P2 HY
                        go_wp2_with fail
                        go_roundw
                        case rel => first
                          | exact ⟨m + 1, by omega, by rw [HZ.out], by go_num, B11⟩
                          | ((repeat apply Exists.intro); exact ⟨⟨m + 1, by omega, by rw [HZ.out], by go_num, B11⟩, rfl⟩)
                        case measure => simp [intOf]; omega
                      | true =>
                        refine wpAnyH_take (i := 14) (v := ?tv25) rfl (by kernel_rfl) (by kernel_rfl) (by kernel_rfl) (fun _ _ _ h => h) (Or.inl ⟨by rfl, ?th25⟩) (by assumption) ?tr25
                        case th25 => (intro w hSw; (try dsimp only at hSw); go_simp; all_goals (with_reducible rfl))
                        simp only [Act.put, List.getElem_toArray, List.getElem_cons_zero, List.getElem_cons_succ, List.setIfInBounds_toArray, List.set_cons_zero, List.set_cons_succ]
                        refine wpAnyH_take (i := 15) (v := ?tv26) rfl (by kernel_rfl) (by kernel_rfl) (by kernel_rfl) (fun _ _ _ h => h) (Or.inl ⟨by rfl, ?th26⟩) (by assumption) ?tr26
                        case th26 => (intro w hSw; (try dsimp only at hSw); go_simp; all_goals (with_reducible rfl))
                        simp only [Act.put, List.getElem_toArray, List.getElem_cons_zero, List.getElem_cons_succ, List.setIfInBounds_toArray, List.set_cons_zero, List.set_cons_succ]
                        refine wpAnyH_take (i := 16) (v := ?tv27) rfl (by kernel_rfl) (by kernel_rfl) (by kernel_rfl) (fun _ _ _ h => h) (Or.inl ⟨by rfl, ?th27⟩) (by assumption) ?tr27
                        case th27 => (intro w hSw; (try dsimp only at hSw); go_simp; all_goals (with_reducible rfl))
                        simp only [Act.put, List.getElem_toArray, List.getElem_cons_zero, List.getElem_cons_succ, List.setIfInBounds_toArray, List.set_cons_zero, List.set_cons_succ]
                        refine wpAnyH_take (i := 17) (v := ?tv28) rfl (by kernel_rfl) (by kernel_rfl) (by kernel_rfl) (fun _ _ _ h => h) (Or.inl ⟨by rfl, ?th28⟩) (by assumption) ?tr28
                        case th28 => (intro w hSw; (try dsimp only at hSw); go_simp; all_goals (with_reducible rfl))
                        simp only [Act.put, List.getElem_toArray, List.getElem_cons_zero, List.getElem_cons_succ, List.setIfInBounds_toArray, List.set_cons_zero, List.set_cons_succ]
                        refine wpAnyH_take (i := 18) (v := ?tv29) rfl (by kernel_rfl) (by kernel_rfl) (by kernel_rfl) (fun _ _ _ h => h) (Or.inl ⟨by rfl, ?th29⟩) (by assumption) ?tr29
                        case th29 => (intro w hSw; (try dsimp only at hSw); go_simp; all_goals (with_reducible rfl))
                        simp only [Act.put, List.getElem_toArray, List.getElem_cons_zero, List.getElem_cons_succ, List.setIfInBounds_toArray, List.set_cons_zero, List.set_cons_succ]
                        refine wpAnyH_take (i := 19) (v := ?tv30) rfl (by kernel_rfl) (by kernel_rfl) (by kernel_rfl) (fun _ _ _ h => h) (Or.inl ⟨by rfl, ?th30⟩) (by assumption) ?tr30
                        case th30 => (intro w hSw; (try dsimp only at hSw); go_simp; all_goals (with_reducible rfl))
                        simp only [Act.put, List.getElem_toArray, List.getElem_cons_zero, List.getElem_cons_succ, List.setIfInBounds_toArray, List.set_cons_zero, List.set_cons_succ]
                        refine wpAnyH_take (i := 21) (v := ?tv31) rfl (by kernel_rfl) (by kernel_rfl) (by kernel_rfl) (fun _ _ _ h => h) (Or.inl ⟨by rfl, ?th31⟩) (by assumption) ?tr31
                        case th31 => (intro w hSw; (try dsimp only at hSw); go_simp; all_goals (with_reducible rfl))
                        simp only [Act.put, List.getElem_toArray, List.getElem_cons_zero, List.getElem_cons_succ, List.setIfInBounds_toArray, List.set_cons_zero, List.set_cons_succ]
                        refine wpAnyH_ready (rs := [20]) (by kernel_rfl) (by simp) ?_
                        refine AllReadyH.cons rfl (fun K hK => ?_) AllReadyH.nil
                        go_simp
                        refine (KWi.out _ BE).mono ?_
                        rintro r v20 ⟨rfl, hv20⟩
                        have BF : Below W8.heap.size W8 v20 := below_tr BE hv20
                        clear hv20
                        refine hK.out _ _ (HS.out _ BF) (fun hHeld => ?_)
                        clear hK K
                        try simp only [Act.put, List.getElem_toArray, List.getElem_cons_zero, List.getElem_cons_succ, List.setIfInBounds_toArray, List.set_cons_zero, List.set_cons_succ]
                        refine wpAnyH_ready (rs := [22]) (by kernel_rfl) (by simp) ?_
                        refine AllReadyH.cons rfl (fun K hK => ?_) AllReadyH.nil
                        go_simp
                        refine (KF.out _ y md2).mono ?_
                        rintro r v22 ⟨rfl, hv22⟩
                        have BG : Below W8.heap.size W8 v22 := below_tr BF hv22
                        clear hv22
                        refine hK.out _ _ (HS.out _ BG) (fun hHeld => ?_)
                        clear hK K
                        try simp only [Act.put, List.getElem_toArray, List.getElem_cons_zero, List.getElem_cons_succ, List.setIfInBounds_toArray, List.set_cons_zero, List.set_cons_succ]
                        refine wpAnyH_take (i := 23) (v := ?tv32) rfl (by kernel_rfl) (by kernel_rfl) (by kernel_rfl) (fun _ _ _ h => h) (Or.inl ⟨by rfl, ?th32⟩) (by assumption) ?tr32
                        case th32 => (intro w hSw; (try dsimp only at hSw); go_simp; all_goals (with_reducible rfl))
                        simp only [Act.put, List.getElem_toArray, List.getElem_cons_zero, List.getElem_cons_succ, List.setIfInBounds_toArray, List.set_cons_zero, List.set_cons_succ]
                        refine wpAnyH_take (i := 24) (v := ?tv33) rfl (by kernel_rfl) (by kernel_rfl) (by kernel_rfl) (fun _ _ _ h => h) (Or.inl ⟨by rfl, ?th33⟩) (by assumption) ?tr33
                        case th33 => (intro w hSw; (try dsimp only at hSw); go_simp; all_goals (with_reducible rfl))
                        simp only [Act.put, List.getElem_toArray, List.getElem_cons_zero, List.getElem_cons_succ, List.setIfInBounds_toArray, List.set_cons_zero, List.set_cons_succ]
                        refine wpAnyH_take (i := 25) (v := ?tv34) rfl (by kernel_rfl) (by kernel_rfl) (by kernel_rfl) (fun _ _ _ h => h) (Or.inl ⟨by rfl, ?th34⟩) (by assumption) ?tr34
                        case th34 => (intro w hSw; (try dsimp only at hSw); go_simp; all_goals (with_reducible rfl))
                        simp only [Act.put, List.getElem_toArray, List.getElem_cons_zero, List.getElem_cons_succ, List.setIfInBounds_toArray, List.set_cons_zero, List.set_cons_succ]
                        refine wpAnyH_take (i := 26) (v := ?tv35) rfl (by kernel_rfl) (by kernel_rfl) (by kernel_rfl) (fun _ _ _ h => h) (Or.inl ⟨by rfl, ?th35⟩) (by assumption) ?tr35
                        case th35 => (intro w hSw; (try dsimp only at hSw); go_simp; all_goals (with_reducible rfl))
                        simp only [Act.put, List.getElem_toArray, List.getElem_cons_zero, List.getElem_cons_succ, List.setIfInBounds_toArray, List.set_cons_zero, List.set_cons_succ]
                        refine wpAnyH_done (by kernel_rfl) ?_ _
                        have HZ : Hid (Lk.wait (T.take (m + 1)) (k : Int) (j : Int) = (!Lk.fit y md2)) := HY.out.trans (by simp)
                        have B11 := hid (below_tr B8.out BG)
                        clear HS KWi KF KH2 SB P1 P2 HY
                        go_wp2_with fail
                        go_roundw
                        case rel => first
                          | exact ⟨m + 1, by omega, by rw [HZ.out], by go_num, B11⟩
                          | ((repeat apply Exists.intro); exact ⟨⟨m + 1, by omega, by rw [HZ.out], by go_num, B11⟩, rfl⟩)
                        case measure => simp [intOf]; omega
            · obtain rfl : m = T.length := by omega
              have j3 : decide ((T.length : Int) < (T.length : Int)) = false := by simp
              rw [← HRk.out]
              have A5 := hid (hA.out.below hb.out)
              clear HRk hA hb
              cases A with
              | false =>
                have HF := hid (HS.out rfl)
                clear HN HS
                go_wp2_with fail
                go_roundw
                case rel => first
                  | exact ⟨j + 1, v, by omega, rfl, by go_num, by rw [HF.out]; exact A5⟩
                  | ((repeat apply Exists.intro); exact ⟨⟨j + 1, v, by omega, rfl, by go_num, by rw [HF.out]; exact A5⟩, rfl⟩)
                case measure => simp [intOf]; omega
              | true =>
                have HF : Hid (Lk.edgesTo R k (j + 1) = L ++ [⟨(k : Int), (j : Int)⟩]) := HN.out rfl
                have A6 : ∀ o, Hid (WdAt w (wr.alloc o) ba (k : Int) v L) := fun o => A5.out.below (bx _ _)
                have cb := A5.out.cell
                clear HN HS A5
                go_wp2_with (at_builtin; refine wpList_append_own _ rfl _ _ 37 rfl w.heap.size 42 i0 (.agg #[.int .i64 0, .int .i64 0]) 2 16 Try.underlying37 hi hz0 hz1 hz3 rfl (by decide) _ _ _ rfl (A6 _).out.out ⟨wr.heap.size, 0, none⟩ 1 1 (sc ⟨(k : Int), (j : Int)⟩) rfl rfl ?c1 ?c2 ?c3 ?c4 ?c5 ?_)
                case c1 =>
                  intro q u hu
                  rw [Addr.add_mid]
                  exact (cell_of_row _ _ _ _ _ _ (heap_alloc_new wr _)).trans (by simpa [sc] using hu)
                case c2 => exact sc_one _
                case c3 => unfold maxLen; omega
                case c4 => omega
                case c5 =>
                  have := (A6 (.cells #[.int .i64 (k : Int), .int .i64 (j : Int)] 42)).out.bel.size
                  simpa using this
                intro v' w6 ho6 hg6 hnil6
                have A7 : Hid (WdAt w w6 ba (k : Int) v' (Lk.edgesTo R k (j + 1))) := by
                  rw [HF.out]; exact (A6 _).out.grown hg6 (OwnPg.grows ho6)
                clear ho6 hg6 hnil6 A6 HF
                go_wp2_with fail
                go_roundw
                case rel => first
                  | exact ⟨j + 1, v', by omega, rfl, by go_num, A7⟩
                  | ((repeat apply Exists.intro); exact ⟨⟨j + 1, v', by omega, rfl, by go_num, A7⟩, rfl⟩)
                case measure => simp [intOf]; omega
        · obtain rfl : j = 12 := by omega
          have hF : Hid (OwnPg wr w.heap.size v (Lk.edgesTo R (k + 1) 0)) := by rw [Lk.edgesTo_round]; exact hA.out.out
          have hB := hid hA.out.bel
          clear hA
          go_wp2_with fail
          go_roundw
          case rel => first
            | exact ⟨k + 1, v, by omega, rfl, by go_num, hF, hB⟩
            | ((repeat apply Exists.intro); exact ⟨⟨k + 1, v, by omega, rfl, by go_num, hF, hB⟩, rfl⟩)
          case measure => simp [intOf]; omega
    · obtain rfl : k = 12 := by omega
      have hO : Hid (OwnPg wr w.heap.size v (Lk.waits T)) := by rw [HW.out]; exact hO.out
      go_wp2_with fail
      go_ret
      exact ⟨_, rfl, hO.out, hb.out⟩
end Go.Proofs.Ytjoaedkgjnchoac.PLock
