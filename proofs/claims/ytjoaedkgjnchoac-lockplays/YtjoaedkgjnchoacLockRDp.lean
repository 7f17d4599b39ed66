/- quirref.DropLocks, walked: of a right table it answers what the plain words say, in rows of its own; nothing that was there has turned. Conditions: a right table that lies where its slice says. -/
import Derived.Test.YtjoaedkgjnchoacLockRDl
import Derived.Test.YtjoaedkgjnchoacLockRAk
namespace Go.Proofs.Ytjoaedkgjnchoac.PLock
open Go Go.RowKit PPool
set_option maxRecDepth 100000

set_option maxHeartbeats 8000000 in
theorem rdrop_any (w : World) (a : Option Addr) (c : Nat) (T : List Lk.It) (t : Int) (h : TbAt w a T) (hg : Lk.Good T) :
    Calls Try.prog 17 #[.slice a T.length c, .int .i64 t] w fun e w' => ∃ v vt, e = .returned (.tuple #[v, vt]) ∧ TbV w' v (Lk.dropT T t) ∧ OwnInts w' w.heap.size vt (Lk.dropL T t) ∧ Below w.heap.size w w' := by
  have H := hid h
  have HG := hid hg
  have l20 := hg.len
  have l20' : (T.length : Int) ≤ 20 := by omega
  have KL := hid fun W v L (h : LsAt W v L) => rless_any W v L t w.heap.size h
  obtain ⟨W7, hW7⟩ : ∃ W7, W7 = w.alloc (.cells #[.int .i64 t] 3) := ⟨_, rfl⟩
  have B7 : Hid (Below w.heap.size w W7) := by show Below _ _ _; rw [hW7]; exact bx _ _
  obtain ⟨B, hB⟩ : ∃ B, B = w.heap.size := ⟨_, rfl⟩
  have C7 : Hid (∀ W, Below W7.heap.size W7 W → W.cell? ⟨B, 0, none⟩ = some (.int .i64 t)) := fun W hW => by
    refine keep1 hW ?_
    rw [hW7, hB, cell_of_row _ _ _ _ _ _ (heap_alloc_new w _)]
    rfl
  have T7 := hid (H.out.below B7.out)
  have HW7 := hid hW7
  have HB := hid hB
  rw [← hB] at KL
  clear h hg hW7
  go_enter Try.func17, Try.ntmps17
  go_upto_region 1 with fail
  rw [← HW7.out, ← hB]
  clear HW7 hB
  go_wp2_with fail
  go_loopw [6, 7, 14] (fun ov tv ix wr => ∃ (k : Nat) (V G : Value), k ≤ T.length ∧ V = ov ∧ G = tv ∧ ix = .int .i64 (k : Int) ∧ Hid (TbW W7 wr V (Lk.dropT (T.take k) t)) ∧ Hid (OwnInts wr W7.heap.size G (Lk.dropL (T.take k) t))) (fun _ _ ix _ => T.length - (intOf ix).toNat)
  case atStart => exact ⟨0, _, _, Nat.zero_le _, rfl, rfl, rfl, TbW.nil (Below.refl _ _), OwnR.nil _ _⟩
  case round =>
    obtain ⟨k, V, G, hk, rfl, rfl, rfl, hV, hO⟩ := hrel
    by_cases hlt : k < T.length
    · obtain ⟨x, hx⟩ : ∃ x, T[k]? = some x := ⟨_, List.getElem?_eq_getElem hlt⟩
      obtain ⟨b, o, vh, vq, rfl, d0, d1, d2, lh, lq⟩ := T7.out k x hx
      have k0 : (0 : Int) ≤ (k : Int) := by omega
      have k1 : (k : Int) < (T.length : Int) := by omega
      have hr := (HG.out.it x (List.mem_of_getElem? hx)).2.2
      have HRT := hid hr
      have l12h := hr.rh.len
      have l12q := hr.rq.len
      have d0 := keep1 hV.out.bel d0
      have d1 := keep1 hV.out.bel d1
      have d2 := keep1 hV.out.bel d2
      have HNV := hid (dropT_next (t := t) hx)
      have HNG := hid (dropL_next (t := t) hx)
      have HTk : Hid ((Lk.dropL (T.take k) t).length ≤ 240) := by
        have := dropL_few (T := T.take k) (fun y hy => (HG.out.it y (List.mem_of_mem_take hy)).2.2) t
        have h20 := HG.out.len
        rw [List.length_take] at this
        show _ ≤ _
        omega
      have HVk : Hid ((Lk.dropT (T.take k) t).length ≤ 20) := by
        show _ ≤ _
        unfold Lk.dropT
        refine Nat.le_trans (List.length_filter_le _ _) ?_
        rw [List.length_map, List.length_take]
        omega
      clear hx hr
      obtain ⟨T1, hT1⟩ : ∃ T1, T1 = Lk.dropT (T.take k) t := ⟨_, rfl⟩
      obtain ⟨R1, hR1⟩ : ∃ R1, R1 = Lk.dropL (T.take k) t := ⟨_, rfl⟩
      rw [← hT1] at hV HNV HVk
      rw [← hR1] at hO HNG HTk
      clear hT1 hR1
      have LH := hid lh
      have LQ := hid lq
      obtain ⟨ah, ch, rfl, _⟩ := lh
      obtain ⟨aq, cq, rfl, _⟩ := lq
      obtain ⟨W5, hW5⟩ : ∃ W5, W5 = wr.alloc (.cells #[.int .i64 x.i, .slice ah x.h.length ch, .slice aq x.q.length cq] 57) := ⟨_, rfl⟩
      obtain ⟨b5, hb5⟩ : ∃ b5, b5 = wr.heap.size := ⟨_, rfl⟩
      have RD0 : Hid (RD W7 W5 b5 x.i (.slice ah x.h.length ch) (.slice aq x.q.length cq) x.h x.q V G T1 R1) := by
        show RD _ _ _ _ _ _ _ _ _ _ _ _
        rw [hW5, hb5]
        exact ⟨heap_alloc_new wr _, hV.out.bel.size, .inl LH.out, .inl LQ.out, hV.out.below (bx _ _), fun e => Nat.lt_irrefl _ (hV.out.own_lt _ e), hO.out.below (bx _ _)⟩
      have HW5 := hid hW5
      have HB5 := hid hb5
      clear hW5 hb5 hV hO
      obtain ⟨nh, hnh⟩ : ∃ n, n = x.h.length := ⟨_, rfl⟩
      obtain ⟨nq, hnq⟩ : ∃ n, n = x.q.length := ⟨_, rfl⟩
      rw [← hnh] at d1 HW5 RD0 LH
      rw [← hnq] at d2 HW5 RD0 LQ
      have HNH := hid hnh
      have HNQ := hid hnq
      clear hnh hnq
      go_upto_region 7 with fail
      rw [← HW5.out, ← HB5.out]
      clear HW5 HB5 d0 d1 d2
      have GE : Hid (W7.heap.size ≤ W5.heap.size) := RD0.out.tb.bel.size
      go_cut [] from 18 to 28 (fun wx => Hid (∃ vh' vq', RD W7 wx b5 x.i vh' vq' (Lk.less x.h t) (Lk.less x.q t) V G T1 R1))
      case first =>
        clear HNV HNG HTk HVk
        refine wp_region_held_drew (S := fun W => W.cell? ⟨b5, 0, none⟩ = some (.int .i64 x.i) ∧ W.cell? ⟨B, 0, none⟩ = some (.int .i64 t)) (by kernel_rfl) ⟨(RD0.out.below (show Below W5.heap.size W5 W5.drew from (Below.refl _ W5).drew)).cells.1, C7.out _ (RD0.out.below (show Below W5.heap.size W5 W5.drew from (Below.refl _ W5).drew)).tb.bel⟩ (fun hHeld => ?_)
        refine wpAnyH_take (i := 0) (v := ?tv1) rfl (by kernel_rfl) (by kernel_rfl) (by kernel_rfl) (fun _ _ _ h => h) (Or.inl ⟨by rfl, ?th1⟩) (by assumption) ?tr1
        case th1 => (intro w hSw; (try dsimp only at hSw); go_simp; all_goals (with_reducible rfl))
        simp only [Act.put, List.getElem_toArray, List.getElem_cons_zero, List.setIfInBounds_toArray, List.set_cons_zero, List.set_cons_succ]
        refine wpAnyH_take (i := 1) (v := ?tv2) rfl (by kernel_rfl) (by kernel_rfl) (by kernel_rfl) (fun _ _ _ h => h) (Or.inl ⟨by rfl, ?th2⟩) (by assumption) ?tr2
        case th2 => (intro w hSw; (try dsimp only at hSw); go_simp; all_goals (with_reducible rfl))
        simp only [Act.put, List.getElem_toArray, List.getElem_cons_zero, List.getElem_cons_succ, List.setIfInBounds_toArray, List.set_cons_zero, List.set_cons_succ]
        refine wpAnyH_take (i := 2) (v := ?tv3) rfl (by kernel_rfl) (by kernel_rfl) (by kernel_rfl) (fun _ _ _ h => h) (Or.inl ⟨by rfl, ?th3⟩) (by assumption) ?tr3
        case th3 => (intro w hSw; (try dsimp only at hSw); go_simp; all_goals (with_reducible rfl))
        simp only [Act.put, List.getElem_toArray, List.getElem_cons_zero, List.getElem_cons_succ, List.setIfInBounds_toArray, List.set_cons_zero, List.set_cons_succ]
        refine wpAnyH_take (i := 3) (v := ?tv4) rfl (by kernel_rfl) (by kernel_rfl) (by kernel_rfl) (fun _ _ _ h => h) (Or.inl ⟨by rfl, ?th4⟩) (by assumption) ?tr4
        case th4 => (intro w hSw; (try dsimp only at hSw); go_simp; all_goals (with_reducible rfl))
        simp only [Act.put, List.getElem_toArray, List.getElem_cons_zero, List.getElem_cons_succ, List.setIfInBounds_toArray, List.set_cons_zero, List.set_cons_succ]
        refine wpAnyH_take (i := 6) (v := ?tv5) rfl (by kernel_rfl) (by kernel_rfl) (by kernel_rfl) (fun _ _ _ h => h) (Or.inl ⟨by rfl, ?th5⟩) (by assumption) ?tr5
        case th5 => (intro w hSw; (try dsimp only at hSw); go_simp; all_goals (with_reducible rfl))
        simp only [Act.put, List.getElem_toArray, List.getElem_cons_zero, List.getElem_cons_succ, List.setIfInBounds_toArray, List.set_cons_zero, List.set_cons_succ]
        refine wpAnyH_take (i := 7) (v := ?tv6) rfl (by kernel_rfl) (by kernel_rfl) (by kernel_rfl) (fun _ _ _ h => h) (Or.inl ⟨by rfl, ?th6⟩) (by assumption) ?tr6
        case th6 => (intro w hSw; (try dsimp only at hSw); go_simp; all_goals (with_reducible rfl))
        simp only [Act.put, List.getElem_toArray, List.getElem_cons_zero, List.getElem_cons_succ, List.setIfInBounds_toArray, List.set_cons_zero, List.set_cons_succ]
        refine wpAnyH_ready (rs := [4, 8]) (by kernel_rfl) (by simp) ?_
        refine AllReadyH.cons rfl (fun K hK => ?_) (AllReadyH.cons rfl (fun K hK => ?_) AllReadyH.nil)
        · skip
          obtain ⟨f0, f1, f2, f3, f4, f5⟩ := (RD0.out.below (show Below W5.heap.size W5 W5.drew from (Below.refl _ W5).drew)).cells
          have f6 := C7.out _ (RD0.out.below (show Below W5.heap.size W5 W5.drew from (Below.refl _ W5).drew)).tb.bel
          go_simp
          refine hK.out _ _ ⟨f0, f6⟩ (fun hHeld => ?_)
          clear hK K f0 f1 f2 f3 f4 f5 f6
          try simp only [Act.put, List.getElem_toArray, List.getElem_cons_zero, List.getElem_cons_succ, List.setIfInBounds_toArray, List.set_cons_zero, List.set_cons_succ]
          refine wpAnyH_ready (rs := [5, 8]) (by kernel_rfl) (by simp) ?_
          refine AllReadyH.cons rfl (fun K hK => ?_) (AllReadyH.cons rfl (fun K hK => ?_) AllReadyH.nil)
          · skip
            obtain ⟨f0, f1, f2, f3, f4, f5⟩ := (RD0.out.below (show Below W5.heap.size W5 W5.drew from (Below.refl _ W5).drew)).cells
            have f6 := C7.out _ (RD0.out.below (show Below W5.heap.size W5 W5.drew from (Below.refl _ W5).drew)).tb.bel
            go_simp
            refine (KL.out W5.drew _ x.h (LH.out.below (below_tr (RD0.out.tb.bel) (show Below W5.heap.size W5 W5.drew from (Below.refl _ W5).drew))) f6 (by omega)).mono ?_
            rintro r u2 ⟨v2, rfl, o2, h2⟩
            have b2 := below_tr (show Below W5.heap.size W5 W5.drew from (Below.refl _ W5).drew) h2
            have o2 := o2.lower (show Below W5.heap.size W5 W5.drew from (Below.refl _ W5).drew).size
            clear f0 f1 f2 f3 f4 f5 f6
            obtain ⟨s2, t2, w2⟩ := o2.at_
            obtain ⟨rfl, _⟩ := w2
            obtain ⟨f0, f1, f2, f3, f4, f5⟩ := (RD0.out.below b2).cells
            have f6 := C7.out _ (RD0.out.below b2).tb.bel
            refine hK.out _ _ ⟨f0, f6⟩ (fun hHeld => ?_)
            clear hK K f0 f1 f2 f3 f4 f5 f6
            try simp only [Act.put, List.getElem_toArray, List.getElem_cons_zero, List.getElem_cons_succ, List.setIfInBounds_toArray, List.set_cons_zero, List.set_cons_succ]
            refine wpAnyH_ready (rs := [8]) (by kernel_rfl) (by simp) ?_
            refine AllReadyH.cons rfl (fun K hK => ?_) AllReadyH.nil
            obtain ⟨f0, f1, f2, f3, f4, f5⟩ := (RD0.out.below b2).cells
            have f6 := C7.out _ (RD0.out.below b2).tb.bel
            go_simp
            refine hK.out _ _ ⟨f0, f6⟩ (fun hHeld => ?_)
            clear hK K f0 f1 f2 f3 f4 f5 f6
            try simp only [Act.put, List.getElem_toArray, List.getElem_cons_zero, List.getElem_cons_succ, List.setIfInBounds_toArray, List.set_cons_zero, List.set_cons_succ]
            refine wpAnyH_ready (rs := [9]) (by kernel_rfl) (by simp) ?_
            refine AllReadyH.cons rfl (fun K hK => ?_) AllReadyH.nil
            obtain ⟨f0, f1, f2, f3, f4, f5⟩ := (RD0.out.below b2).cells
            have f6 := C7.out _ (RD0.out.below b2).tb.bel
            go_simp
            refine (KL.out u2 _ x.q (LQ.out.below (below_tr (RD0.out.tb.bel) b2)) f6 (by omega)).mono ?_
            rintro r u4 ⟨v4, rfl, o4, h4⟩
            have b4 := below_tr b2 h4
            have o4 := o4.lower b2.size
            have oh := OwnLk.below o2 h4
            clear f0 f1 f2 f3 f4 f5 f6
            obtain ⟨s4, t4, w4⟩ := o4.at_
            obtain ⟨rfl, _⟩ := w4
            obtain ⟨f0, f1, f2, f3, f4, f5⟩ := (RD0.out.below b4).cells
            have f6 := C7.out _ (RD0.out.below b4).tb.bel
            refine hK.out _ _ ⟨f0, f6⟩ (fun hHeld => ?_)
            clear hK K f0 f1 f2 f3 f4 f5 f6
            try simp only [Act.put, List.getElem_toArray, List.getElem_cons_zero, List.getElem_cons_succ, List.setIfInBounds_toArray, List.set_cons_zero, List.set_cons_succ]
            obtain ⟨f0, f1, f2, f3, f4, f5⟩ := (RD0.out.below b4).cells
            have f6 := C7.out _ (RD0.out.below b4).tb.bel
            refine wpAnyH_take (i := 10) (v := ?tv7) rfl (by kernel_rfl) (by kernel_rfl) (by kernel_rfl) (fun _ _ _ h => h) (Or.inl ⟨by rfl, ?th7⟩) (by assumption) ?tr7
            case th7 => (intro w hSw; (try dsimp only at hSw); go_simp; all_goals (with_reducible rfl))
            simp only [Act.put, List.getElem_toArray, List.getElem_cons_zero, List.getElem_cons_succ, List.setIfInBounds_toArray, List.set_cons_zero, List.set_cons_succ]
            refine wpAnyH_ready (rs := [11]) (by kernel_rfl) (by simp) ?_
            refine AllReadyH.cons rfl (fun K hK => ?_) AllReadyH.nil
            go_simp
            have F := ((RD0.out.below b4).put3 (.inr (oh.lsIn.lower GE.out)) (.inr (o4.lsIn.lower GE.out)))
            refine hK.out _ _ ⟨F.cells.1, C7.out _ F.tb.bel⟩ (fun hHeld => ?_)
            clear hK K
            try simp only [Act.put, List.getElem_toArray, List.getElem_cons_zero, List.getElem_cons_succ, List.setIfInBounds_toArray, List.set_cons_zero, List.set_cons_succ]
            refine wpAnyH_done (by kernel_rfl) ?_ _
            go_wp2_with fail
            go_meet
            exact ⟨_, _, F⟩
          · skip
            obtain ⟨f0, f1, f2, f3, f4, f5⟩ := (RD0.out.below (show Below W5.heap.size W5 W5.drew from (Below.refl _ W5).drew)).cells
            have f6 := C7.out _ (RD0.out.below (show Below W5.heap.size W5 W5.drew from (Below.refl _ W5).drew)).tb.bel
            go_simp
            refine hK.out _ _ ⟨f0, f6⟩ (fun hHeld => ?_)
            clear hK K f0 f1 f2 f3 f4 f5 f6
            try simp only [Act.put, List.getElem_toArray, List.getElem_cons_zero, List.getElem_cons_succ, List.setIfInBounds_toArray, List.set_cons_zero, List.set_cons_succ]
            refine wpAnyH_ready (rs := [5]) (by kernel_rfl) (by simp) ?_
            refine AllReadyH.cons rfl (fun K hK => ?_) AllReadyH.nil
            obtain ⟨f0, f1, f2, f3, f4, f5⟩ := (RD0.out.below (show Below W5.heap.size W5 W5.drew from (Below.refl _ W5).drew)).cells
            have f6 := C7.out _ (RD0.out.below (show Below W5.heap.size W5 W5.drew from (Below.refl _ W5).drew)).tb.bel
            go_simp
            refine (KL.out W5.drew _ x.h (LH.out.below (below_tr (RD0.out.tb.bel) (show Below W5.heap.size W5 W5.drew from (Below.refl _ W5).drew))) f6 (by omega)).mono ?_
            rintro r u6 ⟨v6, rfl, o6, h6⟩
            have b6 := below_tr (show Below W5.heap.size W5 W5.drew from (Below.refl _ W5).drew) h6
            have o6 := o6.lower (show Below W5.heap.size W5 W5.drew from (Below.refl _ W5).drew).size
            clear f0 f1 f2 f3 f4 f5 f6
            obtain ⟨s6, t6, w6⟩ := o6.at_
            obtain ⟨rfl, _⟩ := w6
            obtain ⟨f0, f1, f2, f3, f4, f5⟩ := (RD0.out.below b6).cells
            have f6 := C7.out _ (RD0.out.below b6).tb.bel
            refine hK.out _ _ ⟨f0, f6⟩ (fun hHeld => ?_)
            clear hK K f0 f1 f2 f3 f4 f5 f6
            try simp only [Act.put, List.getElem_toArray, List.getElem_cons_zero, List.getElem_cons_succ, List.setIfInBounds_toArray, List.set_cons_zero, List.set_cons_succ]
            refine wpAnyH_ready (rs := [9]) (by kernel_rfl) (by simp) ?_
            refine AllReadyH.cons rfl (fun K hK => ?_) AllReadyH.nil
            obtain ⟨f0, f1, f2, f3, f4, f5⟩ := (RD0.out.below b6).cells
            have f6 := C7.out _ (RD0.out.below b6).tb.bel
            go_simp
            refine (KL.out u6 _ x.q (LQ.out.below (below_tr (RD0.out.tb.bel) b6)) f6 (by omega)).mono ?_
            rintro r u7 ⟨v7, rfl, o7, h7⟩
            have b7 := below_tr b6 h7
            have o7 := o7.lower b6.size
            have oh := OwnLk.below o6 h7
            clear f0 f1 f2 f3 f4 f5 f6
            obtain ⟨s7, t7, w7⟩ := o7.at_
            obtain ⟨rfl, _⟩ := w7
            obtain ⟨f0, f1, f2, f3, f4, f5⟩ := (RD0.out.below b7).cells
            have f6 := C7.out _ (RD0.out.below b7).tb.bel
            refine hK.out _ _ ⟨f0, f6⟩ (fun hHeld => ?_)
            clear hK K f0 f1 f2 f3 f4 f5 f6
            try simp only [Act.put, List.getElem_toArray, List.getElem_cons_zero, List.getElem_cons_succ, List.setIfInBounds_toArray, List.set_cons_zero, List.set_cons_succ]
            obtain ⟨f0, f1, f2, f3, f4, f5⟩ := (RD0.out.below b7).cells
            have f6 := C7.out _ (RD0.out.below b7).tb.bel
            refine wpAnyH_take (i := 10) (v := ?tv8) rfl (by kernel_rfl) (by kernel_rfl) (by kernel_rfl) (fun _ _ _ h => h) (Or.inl ⟨by rfl, ?th8⟩) (by assumption) ?tr8
            case th8 => (intro w hSw; (try dsimp only at hSw); go_simp; all_goals (with_reducible rfl))
            simp only [Act.put, List.getElem_toArray, List.getElem_cons_zero, List.getElem_cons_succ, List.setIfInBounds_toArray, List.set_cons_zero, List.set_cons_succ]
            refine wpAnyH_ready (rs := [11]) (by kernel_rfl) (by simp) ?_
            refine AllReadyH.cons rfl (fun K hK => ?_) AllReadyH.nil
            go_simp
            have F := ((RD0.out.below b7).put3 (.inr (oh.lsIn.lower GE.out)) (.inr (o7.lsIn.lower GE.out)))
            refine hK.out _ _ ⟨F.cells.1, C7.out _ F.tb.bel⟩ (fun hHeld => ?_)
            clear hK K
            try simp only [Act.put, List.getElem_toArray, List.getElem_cons_zero, List.getElem_cons_succ, List.setIfInBounds_toArray, List.set_cons_zero, List.set_cons_succ]
            refine wpAnyH_done (by kernel_rfl) ?_ _
            go_wp2_with fail
            go_meet
            exact ⟨_, _, F⟩
        · skip
          obtain ⟨f0, f1, f2, f3, f4, f5⟩ := (RD0.out.below (show Below W5.heap.size W5 W5.drew from (Below.refl _ W5).drew)).cells
          have f6 := C7.out _ (RD0.out.below (show Below W5.heap.size W5 W5.drew from (Below.refl _ W5).drew)).tb.bel
          go_simp
          refine hK.out _ _ ⟨f0, f6⟩ (fun hHeld => ?_)
          clear hK K f0 f1 f2 f3 f4 f5 f6
          try simp only [Act.put, List.getElem_toArray, List.getElem_cons_zero, List.getElem_cons_succ, List.setIfInBounds_toArray, List.set_cons_zero, List.set_cons_succ]
          refine wpAnyH_ready (rs := [4]) (by kernel_rfl) (by simp) ?_
          refine AllReadyH.cons rfl (fun K hK => ?_) AllReadyH.nil
          obtain ⟨f0, f1, f2, f3, f4, f5⟩ := (RD0.out.below (show Below W5.heap.size W5 W5.drew from (Below.refl _ W5).drew)).cells
          have f6 := C7.out _ (RD0.out.below (show Below W5.heap.size W5 W5.drew from (Below.refl _ W5).drew)).tb.bel
          go_simp
          refine hK.out _ _ ⟨f0, f6⟩ (fun hHeld => ?_)
          clear hK K f0 f1 f2 f3 f4 f5 f6
          try simp only [Act.put, List.getElem_toArray, List.getElem_cons_zero, List.getElem_cons_succ, List.setIfInBounds_toArray, List.set_cons_zero, List.set_cons_succ]
          refine wpAnyH_ready (rs := [5]) (by kernel_rfl) (by simp) ?_
          refine AllReadyH.cons rfl (fun K hK => ?_) AllReadyH.nil
          obtain ⟨f0, f1, f2, f3, f4, f5⟩ := (RD0.out.below (show Below W5.heap.size W5 W5.drew from (Below.refl _ W5).drew)).cells
          have f6 := C7.out _ (RD0.out.below (show Below W5.heap.size W5 W5.drew from (Below.refl _ W5).drew)).tb.bel
          go_simp
          refine (KL.out W5.drew _ x.h (LH.out.below (below_tr (RD0.out.tb.bel) (show Below W5.heap.size W5 W5.drew from (Below.refl _ W5).drew))) f6 (by omega)).mono ?_
          rintro r u10 ⟨v10, rfl, o10, h10⟩
          have b10 := below_tr (show Below W5.heap.size W5 W5.drew from (Below.refl _ W5).drew) h10
          have o10 := o10.lower (show Below W5.heap.size W5 W5.drew from (Below.refl _ W5).drew).size
          clear f0 f1 f2 f3 f4 f5 f6
          obtain ⟨s10, t10, w10⟩ := o10.at_
          obtain ⟨rfl, _⟩ := w10
          obtain ⟨f0, f1, f2, f3, f4, f5⟩ := (RD0.out.below b10).cells
          have f6 := C7.out _ (RD0.out.below b10).tb.bel
          refine hK.out _ _ ⟨f0, f6⟩ (fun hHeld => ?_)
          clear hK K f0 f1 f2 f3 f4 f5 f6
          try simp only [Act.put, List.getElem_toArray, List.getElem_cons_zero, List.getElem_cons_succ, List.setIfInBounds_toArray, List.set_cons_zero, List.set_cons_succ]
          refine wpAnyH_ready (rs := [9]) (by kernel_rfl) (by simp) ?_
          refine AllReadyH.cons rfl (fun K hK => ?_) AllReadyH.nil
          obtain ⟨f0, f1, f2, f3, f4, f5⟩ := (RD0.out.below b10).cells
          have f6 := C7.out _ (RD0.out.below b10).tb.bel
          go_simp
          refine (KL.out u10 _ x.q (LQ.out.below (below_tr (RD0.out.tb.bel) b10)) f6 (by omega)).mono ?_
          rintro r u11 ⟨v11, rfl, o11, h11⟩
          have b11 := below_tr b10 h11
          have o11 := o11.lower b10.size
          have oh := OwnLk.below o10 h11
          clear f0 f1 f2 f3 f4 f5 f6
          obtain ⟨s11, t11, w11⟩ := o11.at_
          obtain ⟨rfl, _⟩ := w11
          obtain ⟨f0, f1, f2, f3, f4, f5⟩ := (RD0.out.below b11).cells
          have f6 := C7.out _ (RD0.out.below b11).tb.bel
          refine hK.out _ _ ⟨f0, f6⟩ (fun hHeld => ?_)
          clear hK K f0 f1 f2 f3 f4 f5 f6
          try simp only [Act.put, List.getElem_toArray, List.getElem_cons_zero, List.getElem_cons_succ, List.setIfInBounds_toArray, List.set_cons_zero, List.set_cons_succ]
          obtain ⟨f0, f1, f2, f3, f4, f5⟩ := (RD0.out.below b11).cells
          have f6 := C7.out _ (RD0.out.below b11).tb.bel
          refine wpAnyH_take (i := 10) (v := ?tv9) rfl (by kernel_rfl) (by kernel_rfl) (by kernel_rfl) (fun _ _ _ h => h) (Or.inl ⟨by rfl, ?th9⟩) (by assumption) ?tr9
          case th9 => (intro w hSw; (try dsimp only at hSw); go_simp; all_goals (with_reducible rfl))
          simp only [Act.put, List.getElem_toArray, List.getElem_cons_zero, List.getElem_cons_succ, List.setIfInBounds_toArray, List.set_cons_zero, List.set_cons_succ]
          refine wpAnyH_ready (rs := [11]) (by kernel_rfl) (by simp) ?_
          refine AllReadyH.cons rfl (fun K hK => ?_) AllReadyH.nil
          go_simp
          have F := ((RD0.out.below b11).put3 (.inr (oh.lsIn.lower GE.out)) (.inr (o11.lsIn.lower GE.out)))
          refine hK.out _ _ ⟨F.cells.1, C7.out _ F.tb.bel⟩ (fun hHeld => ?_)
          clear hK K
          try simp only [Act.put, List.getElem_toArray, List.getElem_cons_zero, List.getElem_cons_succ, List.setIfInBounds_toArray, List.set_cons_zero, List.set_cons_succ]
          refine wpAnyH_done (by kernel_rfl) ?_ _
          go_wp2_with fail
          go_meet
          exact ⟨_, _, F⟩
      case rest =>
        obtain ⟨vh0, vq0, RD1⟩ := hcut.out
        have RD1 := hid RD1
        have HRH := hid (HRT.out.rh.sub (Lk.less_sub x.h t))
        have HRQ := hid (HRT.out.rq.sub (Lk.less_sub x.q t))
        have HW : Hid (Lk.wake (Lk.less x.h t) (Lk.less x.q t) = ((Lk.drop1 t x).h, (Lk.drop1 t x).q, Lk.to1 t x)) := rfl
        have HDI : Hid ((Lk.drop1 t x).i = x.i) := rfl
        have HXE : Hid (∀ H Q, H = (Lk.drop1 t x).h → Q = (Lk.drop1 t x).q → (⟨x.i, H, Q⟩ : Lk.It) = Lk.drop1 t x) := fun H Q e1 e2 => by rw [e1, e2]; rfl
        generalize Lk.less x.h t = X0 at *
        generalize Lk.less x.q t = Y0 at *
        generalize Lk.to1 t x = R9 at *
        generalize Lk.drop1 t x = D9 at *
        clear RD0 HRT HNH HNQ LH LQ l12h l12q hcut HDI GE
        obtain ⟨xi, hxi⟩ : ∃ xi, xi = x.i := ⟨_, rfl⟩
        rw [← hxi] at RD1 HXE
        clear hxi
        go_wp2_with fail
        go_loopg [7] Y0.length (fun gn tv wr => ∃ (H1 Q1 : List Lk.Lo) (R2 : List Int) (G1 vh1 vq1 : Value), Hid (Q1.length = gn) ∧ G1 = tv ∧ Hid ((D9.h, D9.q, R9) = ((Lk.wake H1 Q1).1, (Lk.wake H1 Q1).2.1, R2 ++ (Lk.wake H1 Q1).2.2)) ∧ Hid (RD W7 wr b5 xi vh1 vq1 H1 Q1 V G1 T1 (R1 ++ R2)) ∧ Hid (Lk.Rights H1 ∧ Lk.Rights Q1) ∧ Hid (R2.length + Q1.length ≤ 12))
        case atStart => exact ⟨X0, Y0, [], _, vh0, vq0, rfl, rfl, by show _ = _; rw [← HW.out]; simp, by show RD _ _ _ _ _ _ _ _ _ _ _ _; rw [List.append_nil]; exact RD1.out, ⟨HRH.out, HRQ.out⟩, by have := HRQ.out.len; show 0 + _ ≤ _; omega⟩
        case round =>
          clear RD1 HW HRH HRQ
          obtain ⟨H1, Q1, R2, G1, vh1, vq1, hgn, rfl, hR, hRD, hRi, hL⟩ := hrel
          have LQ1 := hid (hRD.out.oq.ls hRD.out.tb.bel)
          have LH1 := hid (hRD.out.oh.ls hRD.out.tb.bel)
          obtain ⟨ah, ch, e1, ph, _⟩ := LH1.out
          obtain ⟨aq, cq, e2, pq, lq1, lq2, _⟩ := LQ1.out
          subst e1; subst e2
          have l12h := hRi.out.1.len
          have l12q := hRi.out.2.len
          have KC := hid fun W (hW : Below wr.heap.size wr W) q (hm : Lk.mode q.m = true) => rcan_any W (.int .i64 xi) ah ch H1 aq Q1.length cq q ⟨xi, rfl⟩ (ph.below hW) (by omega) (fun l hl => hRi.out.1.mode hl) hm
          have KG := hid fun W (hW : Below wr.heap.size wr W) q (hm : Lk.mode q.m = true) => given_any W xi (.slice ah H1.length ch) aq Q1.length cq H1 q (LH1.out.below hW) hRi.out.1 hm (by omega)
          have HG1 := hid (goes1_not (H := H1) (Q := Q1))
          clear ph
          obtain ⟨g, hge⟩ : ∃ g, g = goes1 H1 Q1 := ⟨_, rfl⟩
          rw [← hge] at HG1
          go_upto_region 8 with fail
          go_cut [40] from 29 to 40 (fun r wx => r = .bool g ∧ Hid (Below wr.heap.size wr wx))
          case first =>
            have BD : Below wr.heap.size wr wr.drew := (Below.refl _ _).drew
            obtain ⟨f0, f1, f2, _⟩ := (hRD.out.below BD).cells
            clear HNV HNG HXE hR HTk HVk hgn hL KG HG1
            generalize hnh : H1.length = nh at *
            clear hnh
            cases Q1 with
            | nil =>
              have hz : decide (((([] : List Lk.Lo).length : Nat) : Int) > 0) = false := by simp
              generalize ([] : List Lk.Lo).length = nq at *
              have hz2 : decide (0 < nq) = false := by simpa using hz
              have hz : True := trivial
              refine wp_region_held_drew (S := fun W => W.cell? ⟨b5, 2, none⟩ = some (.slice aq nq cq)) (by kernel_rfl) f2 (fun hHeld => ?_)
              refine wpAnyH_take (i := 0) (v := ?tv10) rfl (by kernel_rfl) (by kernel_rfl) (by kernel_rfl) (fun _ _ _ h => h) (Or.inl ⟨by rfl, ?th10⟩) (by assumption) ?tr10
              case th10 => (intro w hSw; (try dsimp only at hSw); go_simp; all_goals (with_reducible rfl))
              simp only [Act.put, List.getElem_toArray, List.getElem_cons_zero, List.setIfInBounds_toArray, List.set_cons_zero, List.set_cons_succ]
              refine wpAnyH_take (i := 1) (v := ?tv11) rfl (by kernel_rfl) (by kernel_rfl) (by kernel_rfl) (fun _ _ _ h => h) (Or.inl ⟨by rfl, ?th11⟩) (by assumption) ?tr11
              case th11 => (intro w hSw; (try dsimp only at hSw); go_simp; all_goals (with_reducible rfl))
              simp only [Act.put, List.getElem_toArray, List.getElem_cons_zero, List.getElem_cons_succ, List.setIfInBounds_toArray, List.set_cons_zero, List.set_cons_succ]
              refine wpAnyH_take (i := 2) (v := ?tv12) rfl (by kernel_rfl) (by kernel_rfl) (by kernel_rfl) (fun _ _ _ h => h) (Or.inl ⟨by rfl, ?th12⟩) (by assumption) ?tr12
              case th12 => (intro w hSw; (try dsimp only at hSw); go_simp; all_goals (with_reducible rfl))
              simp only [Act.put, List.getElem_toArray, List.getElem_cons_zero, List.getElem_cons_succ, List.setIfInBounds_toArray, List.set_cons_zero, List.set_cons_succ]
              refine wpAnyH_take (i := 3) (v := ?tv13) rfl (by kernel_rfl) (by kernel_rfl) (by kernel_rfl) (fun _ _ _ h => h) (Or.inl ⟨by rfl, ?th13⟩) (by assumption) ?tr13
              case th13 => (intro w hSw; (try dsimp only at hSw); go_simp; all_goals (with_reducible rfl))
              simp only [Act.put, List.getElem_toArray, List.getElem_cons_zero, List.getElem_cons_succ, List.setIfInBounds_toArray, List.set_cons_zero, List.set_cons_succ]
              refine wpAnyH_take (i := 4) (v := ?tv14) rfl (by kernel_rfl) (by kernel_rfl) (by kernel_rfl) (fun _ _ _ h => h) (Or.inl ⟨by rfl, ?th14⟩) (by assumption) ?tr14
              case th14 => (intro w hSw; (try dsimp only at hSw); go_simp; all_goals (with_reducible rfl))
              simp only [Act.put, List.getElem_toArray, List.getElem_cons_zero, List.getElem_cons_succ, List.setIfInBounds_toArray, List.set_cons_zero, List.set_cons_succ]
              try simp only [hz2]
              refine wpAnyH_take (i := 5) (v := undef) rfl (by kernel_rfl) (by kernel_rfl) (by kernel_rfl) (fun _ _ _ h => h) (Or.inr ⟨by rfl, rfl⟩) (by assumption) ?_
              try simp only [Act.put, List.getElem_toArray, List.getElem_cons_zero, List.getElem_cons_succ, List.setIfInBounds_toArray, List.set_cons_zero, List.set_cons_succ]
              refine wpAnyH_take (i := 6) (v := undef) rfl (by kernel_rfl) (by kernel_rfl) (by kernel_rfl) (fun _ _ _ h => h) (Or.inr ⟨by rfl, rfl⟩) (by assumption) ?_
              try simp only [Act.put, List.getElem_toArray, List.getElem_cons_zero, List.getElem_cons_succ, List.setIfInBounds_toArray, List.set_cons_zero, List.set_cons_succ]
              refine wpAnyH_take (i := 7) (v := undef) rfl (by kernel_rfl) (by kernel_rfl) (by kernel_rfl) (fun _ _ _ h => h) (Or.inr ⟨by rfl, rfl⟩) (by assumption) ?_
              try simp only [Act.put, List.getElem_toArray, List.getElem_cons_zero, List.getElem_cons_succ, List.setIfInBounds_toArray, List.set_cons_zero, List.set_cons_succ]
              refine wpAnyH_take (i := 8) (v := undef) rfl (by kernel_rfl) (by kernel_rfl) (by kernel_rfl) (fun _ _ _ h => h) (Or.inr ⟨by rfl, rfl⟩) (by assumption) ?_
              try simp only [Act.put, List.getElem_toArray, List.getElem_cons_zero, List.getElem_cons_succ, List.setIfInBounds_toArray, List.set_cons_zero, List.set_cons_succ]
              refine wpAnyH_take (i := 9) (v := undef) rfl (by kernel_rfl) (by kernel_rfl) (by kernel_rfl) (fun _ _ _ h => h) (Or.inr ⟨by rfl, rfl⟩) (by assumption) ?_
              try simp only [Act.put, List.getElem_toArray, List.getElem_cons_zero, List.getElem_cons_succ, List.setIfInBounds_toArray, List.set_cons_zero, List.set_cons_succ]
              refine wpAnyH_take (i := 10) (v := undef) rfl (by kernel_rfl) (by kernel_rfl) (by kernel_rfl) (fun _ _ _ h => h) (Or.inr ⟨by rfl, rfl⟩) (by assumption) ?_
              try simp only [Act.put, List.getElem_toArray, List.getElem_cons_zero, List.getElem_cons_succ, List.setIfInBounds_toArray, List.set_cons_zero, List.set_cons_succ]
              refine wpAnyH_take (i := 11) (v := ?tv15) rfl (by kernel_rfl) (by kernel_rfl) (by kernel_rfl) (fun _ _ _ h => h) (Or.inl ⟨by rfl, ?th15⟩) (by assumption) ?tr15
              case th15 => (intro w hSw; (try dsimp only at hSw); go_simp; all_goals (with_reducible rfl))
              simp only [Act.put, List.getElem_toArray, List.getElem_cons_zero, List.getElem_cons_succ, List.setIfInBounds_toArray, List.set_cons_zero, List.set_cons_succ]
              refine wpAnyH_done (by kernel_rfl) ?_ _
              go_wp2_with fail
              go_meet
              exact ⟨by rw [hge]; rfl, BD⟩
            | cons q Q2 =>
              obtain ⟨b, o, rfl, e1, e2⟩ := (pq.below BD) 0 q rfl
              simp only [Nat.zero_mul, Nat.add_zero] at e1 e2
              have hz : decide ((((q :: Q2).length : Nat) : Int) > 0) = true := by simp
              have hm := hRi.out.2.mode (.head _)
              have HS : Hid (∀ W, Below wr.heap.size wr W → W.cell? ⟨b5, 0, none⟩ = some (.int .i64 xi) ∧ W.cell? ⟨b5, 1, none⟩ = some (.slice ah nh ch) ∧ W.cell? ⟨b5, 2, none⟩ = some (.slice (some ⟨b, o, none⟩) (q :: Q2).length cq) ∧ W.cell? ⟨b, o, none⟩ = some (.int .i64 q.x) ∧ W.cell? ⟨b, o + 1, none⟩ = some (.int .i64 q.m)) := fun W hW => by
                obtain ⟨f0, f1, f2, _⟩ := (hRD.out.below hW).cells
                obtain ⟨_, _, ee, e1, e2⟩ := (pq.below hW) 0 q rfl
                cases ee
                simp only [Nat.zero_mul, Nat.add_zero] at e1 e2
                exact ⟨f0, f1, f2, e1, e2⟩
              generalize (q :: Q2).length = nq at *
              have hz2 : decide (0 < nq) = true := by simpa using hz
              have n0 : (0 : Int) < (nq : Int) := by simpa using hz
              have n1 : 0 < nq := by simpa using hz2
              have hge : g = Lk.can H1 q := hge
              obtain ⟨qx, qm⟩ := q
              simp only at HS hm e1 e2
              refine wp_region_held_drew (S := fun W => W.cell? ⟨b5, 0, none⟩ = some (.int .i64 xi) ∧ W.cell? ⟨b5, 1, none⟩ = some (.slice ah nh ch) ∧ W.cell? ⟨b5, 2, none⟩ = some (.slice (some ⟨b, o, none⟩) nq cq) ∧ W.cell? ⟨b, o, none⟩ = some (.int .i64 qx) ∧ W.cell? ⟨b, o + 1, none⟩ = some (.int .i64 qm)) (by kernel_rfl) ⟨f0, f1, f2, e1, e2⟩ (fun hHeld => ?_)
              refine wpAnyH_take (i := 0) (v := ?tv16) rfl (by kernel_rfl) (by kernel_rfl) (by kernel_rfl) (fun _ _ _ h => h) (Or.inl ⟨by rfl, ?th16⟩) (by assumption) ?tr16
              case th16 => (intro w hSw; (try dsimp only at hSw); go_simp; all_goals (with_reducible rfl))
              simp only [Act.put, List.getElem_toArray, List.getElem_cons_zero, List.setIfInBounds_toArray, List.set_cons_zero, List.set_cons_succ]
              refine wpAnyH_take (i := 1) (v := ?tv17) rfl (by kernel_rfl) (by kernel_rfl) (by kernel_rfl) (fun _ _ _ h => h) (Or.inl ⟨by rfl, ?th17⟩) (by assumption) ?tr17
              case th17 => (intro w hSw; (try dsimp only at hSw); go_simp; all_goals (with_reducible rfl))
              simp only [Act.put, List.getElem_toArray, List.getElem_cons_zero, List.getElem_cons_succ, List.setIfInBounds_toArray, List.set_cons_zero, List.set_cons_succ]
              refine wpAnyH_take (i := 2) (v := ?tv18) rfl (by kernel_rfl) (by kernel_rfl) (by kernel_rfl) (fun _ _ _ h => h) (Or.inl ⟨by rfl, ?th18⟩) (by assumption) ?tr18
              case th18 => (intro w hSw; (try dsimp only at hSw); go_simp; all_goals (with_reducible rfl))
              simp only [Act.put, List.getElem_toArray, List.getElem_cons_zero, List.getElem_cons_succ, List.setIfInBounds_toArray, List.set_cons_zero, List.set_cons_succ]
              refine wpAnyH_take (i := 3) (v := ?tv19) rfl (by kernel_rfl) (by kernel_rfl) (by kernel_rfl) (fun _ _ _ h => h) (Or.inl ⟨by rfl, ?th19⟩) (by assumption) ?tr19
              case th19 => (intro w hSw; (try dsimp only at hSw); go_simp; all_goals (with_reducible rfl))
              simp only [Act.put, List.getElem_toArray, List.getElem_cons_zero, List.getElem_cons_succ, List.setIfInBounds_toArray, List.set_cons_zero, List.set_cons_succ]
              refine wpAnyH_take (i := 4) (v := ?tv20) rfl (by kernel_rfl) (by kernel_rfl) (by kernel_rfl) (fun _ _ _ h => h) (Or.inl ⟨by rfl, ?th20⟩) (by assumption) ?tr20
              case th20 => (intro w hSw; (try dsimp only at hSw); go_simp; all_goals (with_reducible rfl))
              simp only [Act.put, List.getElem_toArray, List.getElem_cons_zero, List.getElem_cons_succ, List.setIfInBounds_toArray, List.set_cons_zero, List.set_cons_succ]
              try simp only [hz2]
              refine wpAnyH_take (i := 5) (v := ?tv21) rfl (by kernel_rfl) (by kernel_rfl) (by kernel_rfl) (fun _ _ _ h => h) (Or.inl ⟨by rfl, ?th21⟩) (by assumption) ?tr21
              case th21 => (intro w hSw; (try dsimp only at hSw); go_simp; all_goals (with_reducible rfl))
              simp only [Act.put, List.getElem_toArray, List.getElem_cons_zero, List.getElem_cons_succ, List.setIfInBounds_toArray, List.set_cons_zero, List.set_cons_succ]
              refine wpAnyH_take (i := 6) (v := ?tv22) rfl (by kernel_rfl) (by kernel_rfl) (by kernel_rfl) (fun _ _ _ h => h) (Or.inl ⟨by rfl, ?th22⟩) (by assumption) ?tr22
              case th22 => (intro w hSw; (try dsimp only at hSw); go_simp; all_goals (with_reducible rfl))
              simp only [Act.put, List.getElem_toArray, List.getElem_cons_zero, List.getElem_cons_succ, List.setIfInBounds_toArray, List.set_cons_zero, List.set_cons_succ]
              refine wpAnyH_take (i := 7) (v := ?tv23) rfl (by kernel_rfl) (by kernel_rfl) (by kernel_rfl) (fun _ _ _ h => h) (Or.inl ⟨by rfl, ?th23⟩) (by assumption) ?tr23
              case th23 => (intro w hSw; (try dsimp only at hSw); go_simp; all_goals (with_reducible rfl))
              simp only [Act.put, List.getElem_toArray, List.getElem_cons_zero, List.getElem_cons_succ, List.setIfInBounds_toArray, List.set_cons_zero, List.set_cons_succ]
              refine wpAnyH_take (i := 8) (v := ?tv24) rfl (by kernel_rfl) (by kernel_rfl) (by kernel_rfl) (fun _ _ _ h => h) (Or.inl ⟨by rfl, ?th24⟩) (by assumption) ?tr24
              case th24 => (intro w hSw; (try dsimp only at hSw); go_simp; all_goals (with_reducible rfl))
              simp only [Act.put, List.getElem_toArray, List.getElem_cons_zero, List.getElem_cons_succ, List.setIfInBounds_toArray, List.set_cons_zero, List.set_cons_succ]
              refine wpAnyH_take (i := 9) (v := ?tv25) rfl (by kernel_rfl) (by kernel_rfl) (by kernel_rfl) (fun _ _ _ h => h) (Or.inl ⟨by rfl, ?th25⟩) (by assumption) ?tr25
              case th25 => (intro w hSw; (try dsimp only at hSw); go_simp; all_goals (with_reducible rfl))
              simp only [Act.put, List.getElem_toArray, List.getElem_cons_zero, List.getElem_cons_succ, List.setIfInBounds_toArray, List.set_cons_zero, List.set_cons_succ]
              refine wpAnyH_ready (rs := [10]) (by kernel_rfl) (by simp) ?_
              refine AllReadyH.cons rfl (fun K hK => ?_) AllReadyH.nil
              go_simp
              refine (KC.out _ BD ⟨qx, qm⟩ hm).mono ?_
              rintro r v10 ⟨rfl, hv10⟩
              have BE : Below wr.heap.size wr v10 := below_tr BD hv10
              clear hv10
              refine hK.out _ _ (HS.out _ BE) (fun hHeld => ?_)
              clear hK K
              try simp only [Act.put, List.getElem_toArray, List.getElem_cons_zero, List.getElem_cons_succ, List.setIfInBounds_toArray, List.set_cons_zero, List.set_cons_succ]
              refine wpAnyH_take (i := 11) (v := ?tv26) rfl (by kernel_rfl) (by kernel_rfl) (by kernel_rfl) (fun _ _ _ h => h) (Or.inl ⟨by rfl, ?th26⟩) (by assumption) ?tr26
              case th26 => (intro w hSw; (try dsimp only at hSw); go_simp; all_goals (with_reducible rfl))
              simp only [Act.put, List.getElem_toArray, List.getElem_cons_zero, List.getElem_cons_succ, List.setIfInBounds_toArray, List.set_cons_zero, List.set_cons_succ]
              refine wpAnyH_done (by kernel_rfl) ?_ _
              go_wp2_with fail
              go_meet
              exact ⟨by rw [hge], BE⟩
          case rest =>
            obtain ⟨rfl, hX⟩ := hcut
            clear KC
            cases g with
            | true =>
              cases Q1 with
              | nil => cases hge
              | cons q Q2 =>
                obtain ⟨b, o, e3, _, _⟩ := pq 0 q rfl
                subst e3
                have hm := hRi.out.2.mode (.head _)
                have hq := hRi.out.2.lo q (.head _)
                have HR2 : Hid ((D9.h, D9.q, R9) = ((Lk.wake (Lk.give H1 q) Q2).1, (Lk.wake (Lk.give H1 q) Q2).2.1, (R2 ++ [q.x]) ++ (Lk.wake (Lk.give H1 q) Q2).2.2)) := by
                  have := hR.out
                  rw [goes1_yes hge.symm] at this
                  show _ = _
                  rw [this]
                  simp
                have HRi2 : Hid (Lk.Rights (Lk.give H1 q) ∧ Lk.Rights Q2) := ⟨Lk.give_rights hRi.out.1 ⟨hq.1, hq.2.1, hm⟩, hRi.out.2.sub (List.sublist_cons_self _ _)⟩
                have HL2 : Hid ((R2 ++ [q.x]).length + Q2.length ≤ 12) := by
                  have := hL.out
                  show _ ≤ _
                  simp only [List.length_append, List.length_cons, List.length_nil] at this ⊢
                  omega
                have hL1 : Hid (R2.length ≤ 12) := by have := hL.out; show _ ≤ _; omega
                have hgn2 : Hid (Q2.length = gk - 1 ∧ Q2.length < gk) := by
                  have := hgn.out
                  rw [List.length_cons] at this
                  exact ⟨by omega, by omega⟩
                obtain ⟨n, hn⟩ : ∃ n, n = Q2.length := ⟨_, rfl⟩
                have hnn : (q :: Q2).length = n + 1 := by rw [hn]; rfl
                rw [hnn] at hRD lq1
                have RX := hid (hRD.out.below hX.out)
                have HN := hid hn
                have HRi := hid hRi.out.1
                clear hR hL hgn hRD hX hge pq LQ1 LH1 HXE HNG HNV HG1 KG hRi l12q hnn hn hq
                have l12h2 := hid l12h
                generalize hnh : H1.length = nh at *
                have HNH := hid hnh
                clear hnh
                obtain ⟨qx, qm⟩ := q
                simp only at hm HR2 HL2
                have n0 : (0 : Int) < (n : Int) + 1 := by omega
                have n1 : 0 < n + 1 := by omega
                have n2 : ((0 : Int) < ((n + 1 : Nat) : Int)) := by omega
                obtain ⟨f0, f1, f2, _⟩ := RX.out.cells
                obtain ⟨_, _, e3, _, _, _⟩ := RX.out.oq.ls RX.out.tb.bel
                obtain ⟨ii, g1, g2, g3, g4⟩ : ∃ i, Try.prog.info? 3 = some i ∧ i.zero = some (.int .i64 0) ∧ i.size = 1 ∧ i.bytes = 8 := info_parts (by kernel_rfl)
                have HQ : Hid (∀ {W : World} {vh V G : Value} {L : List Lk.Lo} {T1 : List Lk.It} {R : List Int}, RD W7 W b5 xi vh (.slice (some ⟨b, o, none⟩) (n + 1) cq) L (⟨qx, qm⟩ :: Q2) V G T1 R → W.cell? ⟨b, o, none⟩ = some (.int .i64 qx) ∧ W.cell? ⟨b, o + 1, none⟩ = some (.int .i64 qm)) := fun {W vh V G L T1 R} h => by
                  obtain ⟨a', c', ee, hl, _⟩ := h.oq.ls h.tb.bel
                  injection ee with ee _ _
                  subst ee
                  obtain ⟨_, _, e4, e1, e2⟩ := hl 0 _ rfl
                  cases e4
                  simp only [Nat.zero_mul, Nat.add_zero] at e1 e2
                  exact ⟨e1, e2⟩
                obtain ⟨q0, q1⟩ := HQ.out RX.out
                clear e3
                go_wp2_with (at_builtin; refine wpList_append_own _ rfl _ _ 34 rfl W7.heap.size 3 ii (.int .i64 0) 1 8 Try.underlying34 g1 g2 g3 g4 rfl (by decide) _ _ _ rfl (RX.out.below (bx _ _)).og ⟨wc.heap.size, 0, none⟩ 1 1 [.int .i64 qx] rfl rfl (by intro q u hu; rw [Addr.add_mid]; exact (cell_of_row _ _ _ _ _ _ (heap_alloc_new wc _)).trans (by simpa using hu)) ?c2 ?c3 ?c4 ?c5 ?_)
                case c2 => first | rfl | (intro v hv; rw [List.mem_singleton] at hv; subst hv; rfl)
                case c3 => have := HTk.out; have := hL1.out; (try rw [List.length_append]); unfold maxLen; omega
                case c4 => have := HTk.out; have := hL1.out; (try rw [List.length_append]); omega
                case c5 => have := (RX.out.below (bx wc (.cells #[.int .i64 qx] 3))).tb.bel.size; simpa using this
                intro v6 w6 ho6 hg6 _
                have R6 : Hid (RD W7 w6 b5 xi (.slice ah nh ch) (.slice (some ⟨b, o, none⟩) (n + 1) cq) H1 (⟨qx, qm⟩ :: Q2) V v6 T1 (R1 ++ (R2 ++ [qx]))) := by
                  have h := (RX.out.below (bx wc (.cells #[.int .i64 qx] 3))).ints hg6 (show OwnInts w6 W7.heap.size v6 ((R1 ++ R2) ++ [qx]) from OwnR.grows (by simpa using ho6))
                  rw [List.append_assoc] at h
                  exact h
                clear ho6 hg6 RX f0 f1 f2 q0 q1 g1 g2 g3 g4
                go_upto_region 10 with fail
                go_cut [] from 49 to 54 (fun wy => Hid (∃ vh', RD W7 wy b5 xi vh' (.slice (some ⟨b, o, none⟩) (n + 1) cq) (Lk.give H1 ⟨qx, qm⟩) (⟨qx, qm⟩ :: Q2) V v6 T1 (R1 ++ (R2 ++ [qx]))))
                case first =>
                  have KG := hid fun W (hW : Below w6.heap.size w6 W) => given_any W xi (.slice ah nh ch) (some ⟨b, o, none⟩) (n + 1) cq H1 ⟨qx, qm⟩ ((R6.out.oh.ls R6.out.tb.bel).below hW) HRi.out hm (by have := HRi.out.len; omega)
                  have BD : Below w6.heap.size w6 w6.drew := (Below.refl _ _).drew
                  obtain ⟨f0, f1, f2, _⟩ := (R6.out.below BD).cells
                  obtain ⟨q0, q1⟩ := HQ.out (R6.out.below BD)
                  clear HR2 HRi2 HL2 hgn2 HTk HVk hL1
                  refine wp_region_held_drew (S := fun W => W.cell? ⟨b5, 0, none⟩ = some (.int .i64 xi) ∧ W.cell? ⟨b5, 2, none⟩ = some (.slice (some ⟨b, o, none⟩) (n + 1) cq) ∧ W.cell? ⟨b, o, none⟩ = some (.int .i64 qx) ∧ W.cell? ⟨b, o + 1, none⟩ = some (.int .i64 qm)) (by kernel_rfl) ⟨f0, f2, q0, q1⟩ (fun hHeld => ?_)
                  refine wpAnyH_take (i := 1) (v := ?tv27) rfl (by kernel_rfl) (by kernel_rfl) (by kernel_rfl) (fun _ _ _ h => h) (Or.inl ⟨by rfl, ?th27⟩) (by assumption) ?tr27
                  case th27 => (intro w hSw; (try dsimp only at hSw); go_simp; all_goals (with_reducible rfl))
                  simp only [Act.put, List.getElem_toArray, List.getElem_cons_zero, List.getElem_cons_succ, List.setIfInBounds_toArray, List.set_cons_zero, List.set_cons_succ]
                  refine wpAnyH_take (i := 2) (v := ?tv28) rfl (by kernel_rfl) (by kernel_rfl) (by kernel_rfl) (fun _ _ _ h => h) (Or.inl ⟨by rfl, ?th28⟩) (by assumption) ?tr28
                  case th28 => (intro w hSw; (try dsimp only at hSw); go_simp; all_goals (with_reducible rfl))
                  simp only [Act.put, List.getElem_toArray, List.getElem_cons_zero, List.getElem_cons_succ, List.setIfInBounds_toArray, List.set_cons_zero, List.set_cons_succ]
                  refine wpAnyH_take (i := 3) (v := ?tv29) rfl (by kernel_rfl) (by kernel_rfl) (by kernel_rfl) (fun _ _ _ h => h) (Or.inl ⟨by rfl, ?th29⟩) (by assumption) ?tr29
                  case th29 => (intro w hSw; (try dsimp only at hSw); go_simp; all_goals (with_reducible rfl))
                  simp only [Act.put, List.getElem_toArray, List.getElem_cons_zero, List.getElem_cons_succ, List.setIfInBounds_toArray, List.set_cons_zero, List.set_cons_succ]
                  refine wpAnyH_take (i := 4) (v := ?tv30) rfl (by kernel_rfl) (by kernel_rfl) (by kernel_rfl) (fun _ _ _ h => h) (Or.inl ⟨by rfl, ?th30⟩) (by assumption) ?tr30
                  case th30 => (intro w hSw; (try dsimp only at hSw); go_simp; all_goals (with_reducible rfl))
                  simp only [Act.put, List.getElem_toArray, List.getElem_cons_zero, List.getElem_cons_succ, List.setIfInBounds_toArray, List.set_cons_zero, List.set_cons_succ]
                  refine wpAnyH_ready (rs := [0]) (by kernel_rfl) (by simp) ?_
                  refine AllReadyH.cons rfl (fun K hK => ?_) AllReadyH.nil
                  go_simp
                  refine hK.out _ _ ⟨f0, f2, q0, q1⟩ (fun hHeld => ?_)
                  clear hK K
                  try simp only [Act.put, List.getElem_toArray, List.getElem_cons_zero, List.getElem_cons_succ, List.setIfInBounds_toArray, List.set_cons_zero, List.set_cons_succ]
                  refine wpAnyH_ready (rs := [5]) (by kernel_rfl) (by simp) ?_
                  refine AllReadyH.cons rfl (fun K hK => ?_) AllReadyH.nil
                  go_simp
                  refine (KG.out _ BD).mono ?_
                  rintro r u ⟨vh7, rfl, o7, b7⟩
                  have b7 := below_tr BD b7
                  clear f0 f1 f2 q0 q1
                  obtain ⟨f0, f1, f2, f3, f4, f5⟩ := (R6.out.below b7).cells
                  obtain ⟨q0, q1⟩ := HQ.out (R6.out.below b7)
                  obtain ⟨a7, c7, ee, _⟩ := o7.at_
                  subst ee
                  refine hK.out _ _ ⟨f0, f2, q0, q1⟩ (fun hHeld => ?_)
                  clear hK K
                  try simp only [Act.put, List.getElem_toArray, List.getElem_cons_zero, List.getElem_cons_succ, List.setIfInBounds_toArray, List.set_cons_zero, List.set_cons_succ]
                  refine wpAnyH_ready (rs := [6]) (by kernel_rfl) (by simp) ?_
                  refine AllReadyH.cons rfl (fun K hK => ?_) AllReadyH.nil
                  go_simp
                  have F := (R6.out.below b7).put3 (.inr (o7.lsIn.lower R6.out.tb.bel.size)) (R6.out.below b7).oq
                  refine hK.out _ _ ⟨F.cells.1, F.cells.2.2.1, (HQ.out F).1, (HQ.out F).2⟩ (fun hHeld => ?_)
                  clear hK K
                  try simp only [Act.put, List.getElem_toArray, List.getElem_cons_zero, List.getElem_cons_succ, List.setIfInBounds_toArray, List.set_cons_zero, List.set_cons_succ]
                  refine wpAnyH_done (by kernel_rfl) ?_ _
                  go_wp2_with fail
                  go_meet
                  exact ⟨_, F⟩
                case rest =>
                  obtain ⟨vh7, R7⟩ := hcut.out
                  have R7 := hid R7
                  clear R6
                  have hsl := fun W => tlA_run b o n cq W (by omega)
                  have R8 : Hid (RD W7 (wc.setCell ⟨b5, 2, none⟩ (.slice (tlA b o cq) n (cq - 1))) b5 xi vh7 (.slice (tlA b o cq) n (cq - 1)) (Lk.give H1 ⟨qx, qm⟩) Q2 V v6 T1 (R1 ++ (R2 ++ [qx]))) := by
                    refine R7.out.put2 ?_
                    have h := R7.out.oq
                    rw [HN.out] at h ⊢
                    exact h.tl
                  obtain ⟨f0, f1, f2, f3, f4, f5⟩ := R7.out.cells
                  generalize tlA b o cq = a2 at *
                  clear R7 hcut
                  go_wp2_with fail
                  go_roundg (gk - 1)
                  case rel => first
                    | exact ⟨_, Q2, R2 ++ [qx], v6, vh7, _, hgn2.out.1, rfl, HR2, R8, HRi2, HL2⟩
                    | ((repeat apply Exists.intro); exact ⟨⟨_, Q2, R2 ++ [qx], v6, vh7, _, hgn2.out.1, rfl, HR2, R8, HRi2, HL2⟩, rfl⟩)
                  all_goals have := hgn2.out; omega
            | false =>
              have HF : Hid (D9.h = H1 ∧ D9.q = Q1 ∧ R9 = R2) := by
                have := hR.out
                rw [HG1.out rfl] at this
                simp only [List.append_nil, Prod.mk.injEq] at this
                exact this
              have RX := hid (hRD.out.below hX.out)
              have HXE2 := hid (HXE.out H1 Q1 HF.out.1.symm HF.out.2.1.symm)
              have HFu : Hid (Lk.full D9 = decide (0 < H1.length)) := by
                show Lk.full _ = _
                unfold Lk.full
                rw [HF.out.1]
                cases H1 <;> simp
              have HNG2 : Hid (Lk.dropL (T.take (k + 1)) t = R1 ++ R2) := by show _ = _; rw [HNG.out, HF.out.2.2]
              clear hR hgn hL hRD hX hge pq lq1 lq2 LQ1 LH1 HXE HNG HF HG1 KG hRi l12h l12q
              generalize H1.length = nh at *
              generalize Q1.length = nq at *
              obtain ⟨f0, f1, f2, _⟩ := RX.out.cells
              by_cases hf : 0 < nh
              · have hf1 : (0 : Int) < (nh : Int) := by omega
                have hf2 : decide ((0 : Int) < (nh : Int)) = true := by simpa using hf
                have hf3 : decide (0 < nh) = true := by simpa using hf
                have hf4 : 0 < nh := hf
                have NV : Hid (Lk.dropT (T.take (k + 1)) t = T1 ++ [D9]) := by show _ = _; rw [HNV.out, HFu.out, decide_eq_true hf, if_pos rfl]
                clear HNV HFu hf
                obtain rfl := HXE2.out
                have HVk2 : (T1.length : Nat) ≤ 2000 := by have := HVk.out; omega
                go_wp2_with (at_builtin; refine wpList_app1_tb rfl _ _ rfl _ T1 rfl (RX.out.tb.below (bx _ _)) wc.heap.size ⟨xi, ah, nh, ch, aq, nq, cq⟩ ⟨xi, H1, Q1⟩ rfl (rone1 wc ⟨xi, ah, nh, ch, aq, nq, cq⟩) ⟨rfl, RX.out.oh.below (bx _ _), RX.out.oq.below (bx _ _)⟩ HVk2 ?_)
                intro a9 n9 c9 w9 ht9 hg9
                have HV9 : Hid (TbW W7 w9 (.slice a9 n9 c9) (Lk.dropT (T.take (k + 1)) t)) := by show TbW _ _ _ _; rw [NV.out]; exact ht9
                have HO9 : Hid (OwnInts w9 W7.heap.size G1 (Lk.dropL (T.take (k + 1)) t)) := by
                  show OwnInts _ _ _ _
                  rw [HNG2.out]
                  exact (RX.out.tb.below (bx wc (.cells #[.int .i64 xi, .slice ah nh ch, .slice aq nq cq] 57))).ints (RX.out.og.below (bx _ _)) hg9
                clear ht9 hg9 RX f0 f1 f2
                go_wp2_with fail
                go_roundw
                case rel => first
                  | exact ⟨k + 1, _, G1, by omega, rfl, rfl, by go_num, HV9, HO9⟩
                  | ((repeat apply Exists.intro); exact ⟨⟨k + 1, _, G1, by omega, rfl, rfl, by go_num, HV9, HO9⟩, rfl⟩)
                case measure => simp [intOf]; omega
              · have hf2 : decide ((0 : Int) < (nh : Int)) = false := by simpa using hf
                have hf3 : decide (0 < nh) = false := by simpa using hf
                have NV : Hid (Lk.dropT (T.take (k + 1)) t = T1) := by show _ = _; rw [HNV.out, HFu.out, decide_eq_false hf, if_neg (by simp), List.append_nil]
                clear HNV HFu hf
                have HV9 : Hid (TbW W7 wc V (Lk.dropT (T.take (k + 1)) t)) := by show TbW _ _ _ _; rw [NV.out]; exact RX.out.tb
                have HO9 : Hid (OwnInts wc W7.heap.size G1 (Lk.dropL (T.take (k + 1)) t)) := by show OwnInts _ _ _ _; rw [HNG2.out]; exact RX.out.og
                clear RX
                go_wp2_with fail
                go_roundw
                case rel => first
                  | exact ⟨k + 1, V, G1, by omega, rfl, rfl, by go_num, HV9, HO9⟩
                  | ((repeat apply Exists.intro); exact ⟨⟨k + 1, V, G1, by omega, rfl, rfl, by go_num, HV9, HO9⟩, rfl⟩)
                case measure => simp [intOf]; omega
    · obtain rfl : k = T.length := by omega
      have j3 : decide ((T.length : Int) < (T.length : Int)) = false := by simp
      rw [List.take_length] at hV hO
      have F := hV.out.at_
      have FB := below_tr B7.out hV.out.bel
      have FO := hO.out.lower B7.out.size
      clear hV hO
      go_wp2_with fail
      go_ret2
      exact ⟨_, _, rfl, F, FO, FB⟩
end Go.Proofs.Ytjoaedkgjnchoac.PLock
