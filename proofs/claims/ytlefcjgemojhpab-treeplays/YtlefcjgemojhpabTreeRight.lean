/- tree's shiftRight, walked: a key goes from the left of two neighbours up, and what was up to the right one; with it, where there is one, what is below it. Conditions: how many there are. -/
import Derived.Test.YtlefcjgemojhpabTreeNow
namespace Go.Proofs.Ytlefcjgemojhpab.PTree
open Go Go.RowKit PPool
set_option maxRecDepth 100000
set_option maxHeartbeats 4000000 in
theorem right_any (w : World) (o : Lab) (M : Sto) (hM : Mem w o M) (p l r i K : Nat) (X R : List En) (C lc rc : List Nat) (L : List En) (s x : En)
    (hp : M p = some ⟨X, C⟩) (hl : M l = some ⟨L ++ [x], lc⟩) (hr : M r = some ⟨R, rc⟩) (n1 : p ≠ l) (n2 : p ≠ r) (n3 : l ≠ r)
    (hs : X[i]? = some s) (hC1 : C[i]? = some l) (hC2 : C[i + 1]? = some r) (hX : X.length ≤ 10) (hC : C.length ≤ 11) (hL : L.length = K) (hK : K ≤ 6) (hR : R.length ≤ 6) (hrc : rc.length ≤ 7) (hlc : lc = [] ∨ lc.length = K + 2) :
    Calls Try.prog 69 #[.pointer (some ⟨p, 0, none⟩), .int .i64 (i : Int)] w fun e w' => e = .returned (.tuple #[]) ∧ ∃ o' M', Mem w' o' M' ∧ Gos o w w' o' ∧
      M' p = some ⟨X.set i x, C⟩ ∧ M' l = some ⟨L, lc.take (K + 1)⟩ ∧ M' r = some ⟨s :: R, lc.drop (K + 1) ++ rc⟩ ∧ Off M M' [p, l, r] := by
  have HM := hid hM
  have HLC := hid hlc
  have HP := hid hp
  have HL := hid hl
  have HR := hid hr
  have HS := hid hs
  obtain ⟨i1, -⟩ := List.getElem?_eq_some_iff.1 hC2
  obtain ⟨i2, -⟩ := List.getElem?_eq_some_iff.1 hs
  obtain ⟨ae, ce, ab, cb, op⟩ := hM.open_ hp
  obtain ⟨gb, go, rfl, d1⟩ := op.kid hC1
  obtain ⟨_, _, e, d2⟩ := op.kid hC2
  cases e
  have c1 := op.at_.c1
  have HO := hid op
  clear hM hp hl hr hs hC1 hC2 hlc
  simp only at c1
  generalize hCn : C.length = CN at *
  generalize hXn : X.length = XN at *
  have HCn := hid hCn
  have HXn := hid hXn
  have HLn := hid hL
  clear hCn hXn hL
  have k0 : (0 : Int) ≤ (i : Int) := by omega
  have k1 : (i : Int) < (CN : Int) := by omega
  have k2 : (i : Int) + 1 < (CN : Int) := by omega
  have k3 : (i : Int) < (XN : Int) := by omega
  go_enter Try.func69, Try.ntmps69
  go_wp2_with fail
  go_quiet (fail)
  have N0 : Hid (Now w o (w.drewN nq) o M) := (⟨HM.out, Gos.refl _ _⟩ : Now w o w o M).below (below_drewN (Below.refl _ _) _)
  generalize w.drewN nq = w1 at *
  clear c1 d1 d2 HO
  obtain ⟨al, cl, bl, kl, opl⟩ := N0.out.mem.open_ HL.out
  obtain ⟨ar, cr, br, kr, opr⟩ := N0.out.mem.open_ HR.out
  obtain ⟨ae, ce, ab, cb, op⟩ := N0.out.mem.open_ HP.out
  obtain ⟨ge, eo, rfl, d1, d2⟩ := op.ent HS.out
  have q1 := opl.at_.c0
  have q2 := opr.at_.c0
  have q2f := opr.at_.f0
  have rlt := opr.at_.lt
  have q3 := op.at_.c0
  have apr := N0.out.mem.apart HR.out opr
  have app := N0.out.mem.apart HP.out op
  have m1 : Hid (¬ ownB (.slice ar R.length cr) r) := not_own apr.e apr.self (by simp)
  have m2 : Hid (¬ ownB (.slice ar R.length cr) p) := not_own apr.e app.self (by simp)
  have m3 : Hid (¬ ownB (.slice ar R.length cr) ge) := not_own apr.e (app.e _ _ _ rfl) (by simpa using n2)
  have OR := hid opr.e
  simp only [List.length_append, List.length_cons, List.length_nil, Nat.zero_add, HLn.out, HXn.out] at q1 q3
  simp only at q2
  clear opl opr op apr app ab bl br
  obtain ⟨sk, st⟩ := s
  simp only at d1 d2
  have q2a : ∀ o, (w1.alloc o).cell? ⟨r, 0, none⟩ = some (.slice ar R.length cr) := fun o => TE.keep1 (bx _ _) q2
  have q3a : ∀ o, (w1.alloc o).cell? ⟨p, 0, none⟩ = some (.slice (some ⟨ge, eo, none⟩) XN ce) := fun o => TE.keep1 (bx _ _) q3
  go_upto_region 2 with fail
  go_cut [] from 28 to 43 (fun wx => Hid (∃ o1, Now w o wx o1 (M.put r ⟨⟨sk, st⟩ :: R, rc⟩)))
  case first =>
    go_region_with ((go_at_call 61; refine (insE (X := R) 0 rfl (OR.out.below (ad _ _)) (show (w1.alloc _).heap[w1.heap.size]? = _ from heap_alloc_new w1 _) (own_alloc_ne OR.out) (by omega) (Nat.zero_le _)).mono ?_; rintro r3 w3 ⟨v3, rfl, ho3, g3⟩; have z1 := goes_cell g3 (TE.keep1 (ad _ _) q2) m1.out; have z2 := goes_frz g3 ((ad w1 _).frozen (p := ⟨r, 0, none⟩) rlt |>.trans q2f) (by simp; omega) m1.out; have HO3 := hid ho3; have G3 := hid g3; obtain ⟨a3, c3, rfl, -⟩ := ho3.at_; clear ho3 g3))
    all_goals (go_wp2_with fail; go_meet; case rel => exact hid ((N0.out.below (ad _ _)).setE HR.out (TE.keep1 (ad _ _) q2) G3.out HO3.out (by simp)))
  case rest =>
    obtain ⟨o1, hN1⟩ := hcut.out
    have N1 := hid hN1
    clear hcut hN1 N0 q1 q2 q2f rlt q3 q2a q3a m1 m2 m3 d1 d2 OR
    obtain ⟨M1, hM1⟩ : ∃ M1, M1 = M.put r ⟨⟨sk, st⟩ :: R, rc⟩ := ⟨_, rfl⟩
    rw [← hM1] at N1
    have HP1 : Hid (M1 p = some ⟨X, C⟩) := by rw [hM1]; exact (Sto.put_ne _ _ n2).trans HP.out
    have HL1 : Hid (M1 l = some ⟨L ++ [x], lc⟩) := by rw [hM1]; exact (Sto.put_ne _ _ n3).trans HL.out
    have HR1 : Hid (M1 r = some ⟨⟨sk, st⟩ :: R, rc⟩) := by rw [hM1]; exact Sto.put_at _ _ _
    have F1 : Hid (Off M M1 [p, l, r]) := by rw [hM1]; exact fun q hq => Sto.put_ne _ _ (fun e => hq (by rw [e]; simp))
    clear hM1 HP HL HR HM
    obtain ⟨al, cl, bl, kl, opl⟩ := N1.out.mem.open_ HL1.out
    obtain ⟨ae, ce, ab, cb, op⟩ := N1.out.mem.open_ HP1.out
    obtain ⟨ge, ce', e, hge⟩ := op.e.some (by show 0 < X.length; rw [HXn.out]; omega)
    injection e with e1 _ e3
    subst e1; subst e3
    obtain ⟨gl, lo, rfl, d1, d2⟩ := opl.ent (j := K) (x := x) (by simp [← HLn.out])
    have q1 := opl.at_.c0
    have q3 := op.at_.c0
    have OE := hid op.e
    simp only at OE
    rw [HXn.out] at OE
    have QE : Hid (wc.cell? ⟨p, 0, none⟩ = some (.slice (some ⟨ge, 0, none⟩) XN ce)) := by rw [← HXn.out]; exact q3
    obtain ⟨x1, x2⟩ := OE.out.cells HS.out
    have f1 := OE.out.fz (i * 2)
    have f2 := OE.out.fz (i * 2 + 1)
    simp only [List.length_append, List.length_cons, List.length_nil, Nat.zero_add, HLn.out, HXn.out] at q1 q3
    obtain ⟨xk, xt⟩ := x
    simp only at d1 d2 x1 x2
    clear opl op ab hge
    go_upto_region 3 with fail
    go_cut [] from 44 to 56 (fun wx => Hid (Now w o wx o1 (M1.put p ⟨X.set i ⟨xk, xt⟩, C⟩)))
    case first =>
      go_region_with (fail)
      all_goals (go_wp2_with fail; go_meet; case rel => exact hid (Now.drew (N1.out.entry HP1.out QE.out OE.out i (by rw [HXn.out]; omega) xk xt)))
    case rest =>
      have N2 := hid hcut.out
      obtain ⟨M2, hM2⟩ : ∃ M2, M2 = M1.put p ⟨X.set i ⟨xk, xt⟩, C⟩ := ⟨_, rfl⟩
      rw [← hM2] at N2
      have HP2 : Hid (M2 p = some ⟨X.set i ⟨xk, xt⟩, C⟩) := by rw [hM2]; exact Sto.put_at _ _ _
      have HL2 : Hid (M2 l = some ⟨L ++ [⟨xk, xt⟩], lc⟩) := by rw [hM2]; exact (Sto.put_ne _ _ (Ne.symm n1)).trans HL1.out
      have HR2 : Hid (M2 r = some ⟨⟨sk, st⟩ :: R, rc⟩) := by rw [hM2]; exact (Sto.put_ne _ _ (Ne.symm n2)).trans HR1.out
      have F2 : Hid (Off M M2 [p, l, r]) := by rw [hM2]; exact fun q hq => (Sto.put_ne _ _ (fun e => hq (by rw [e]; simp))).trans (F1.out q hq)
      clear hcut hM2 HP1 HL1 HR1 F1 q1 q3 d1 d2 x1 x2 f1 f2 QE OE N1 HS
      obtain ⟨al, cl, bl, kl, opl⟩ := N2.out.mem.open_ HL2.out
      obtain ⟨gl, cl', e, hgl⟩ := opl.e.some (by simp)
      injection e with e1 _ e3
      subst e1; subst e3
      have q1 := opl.at_.c0
      have f1 := opl.at_.f0
      have llt := opl.at_.lt
      have apl := N2.out.mem.apart HL2.out opl
      have OL := hid opl.e
      simp only [List.length_append, List.length_cons, List.length_nil, Nat.zero_add, HLn.out] at q1 OL apl
      have QL := hid q1
      have m1 : Hid (¬ ownB (.slice (some ⟨gl, 0, none⟩) (K + 1) cl) l) := not_own apl.e apl.self (by simp)
      clear opl apl hgl
      go_wp2_with fail
      refine (delE (X := L ++ [⟨xk, xt⟩]) K (K + 1) rfl (by omega) (by simp [HLn.out]) OL.out (by omega) (by omega) (by omega)).mono ?_
      rintro r5 w5 ⟨v5, rfl, ho5, g5⟩
      have z1 := goes_cell g5 QL.out m1.out
      have z2 := goes_frz g5 f1 llt m1.out
      have eL : (L ++ [(⟨xk, xt⟩ : En)]).take K ++ (L ++ [(⟨xk, xt⟩ : En)]).drop (K + 1) = L := by
        rw [← HLn.out, List.take_left, List.drop_of_length_le (by simp), List.append_nil]
      rw [eL] at ho5
      clear eL
      obtain ⟨a5, c5, rfl, -⟩ := ho5.at_
      obtain ⟨o3, hN3⟩ := N2.out.setE HL2.out QL.out g5 ho5 rfl
      have N3 := hid hN3
      clear ho5 g5 q1 f1 hN3
      go_wp2_with fail
      generalize w5.setCell ⟨l, 0, none⟩ (.slice a5 L.length c5) = w6 at *
      obtain ⟨M3, hM3⟩ : ∃ M3, M3 = M2.put l ⟨L, lc⟩ := ⟨_, rfl⟩
      rw [← hM3] at N3
      have HP3 : Hid (M3 p = some ⟨X.set i ⟨xk, xt⟩, C⟩) := by rw [hM3]; exact (Sto.put_ne _ _ n1).trans HP2.out
      have HL3 : Hid (M3 l = some ⟨L, lc⟩) := by rw [hM3]; exact Sto.put_at _ _ _
      have HR3 : Hid (M3 r = some ⟨⟨sk, st⟩ :: R, rc⟩) := by rw [hM3]; exact (Sto.put_ne _ _ (Ne.symm n3)).trans HR2.out
      have F3 : Hid (Off M M3 [p, l, r]) := by rw [hM3]; exact fun q hq => (Sto.put_ne _ _ (fun e => hq (by rw [e]; simp))).trans (F2.out q hq)
      clear hM3 HP2 HL2 HR2 F2 N2 z1 z2 m1 QL OL llt
      obtain ⟨al, cl, bl, kl, opl⟩ := N3.out.mem.open_ HL3.out
      have KL := hid (last_any w6 l _ al cl bl kl opl)
      have q4 := opl.at_.c1
      have OLb := hid opl.b
      have AL := hid (N3.out.mem.apart HL3.out opl)
      have f4 := opl.at_.f1
      have llt := opl.at_.lt
      simp only at KL q4 OLb AL
      rcases HLC.out with rfl | hlc
      · clear q4 OLb AL f4 llt opl
        simp only [List.length_nil] at KL
        refine KL.out.mono ?_
        rintro r6 w7 ⟨rfl, rfl⟩
        go_wp2_with fail
        go_end0
        exact ⟨rfl, o3, M3, N3.out.mem, N3.out.go, HP3.out, by rw [List.take_nil]; exact HL3.out, by rw [List.drop_nil]; exact HR3.out, F3.out⟩
      · obtain ⟨LC, c, rfl, hLC⟩ : ∃ LC c, lc = LC ++ [c] ∧ LC.length = K + 1 := by
          refine ⟨lc.dropLast, lc.getLast (by intro e; rw [e] at hlc; simp at hlc), (List.dropLast_concat_getLast _).symm, by rw [List.length_dropLast]; omega⟩
        obtain ⟨ar, cr, br, kr, opr⟩ := N3.out.mem.open_ HR3.out
        obtain ⟨gl, lo, rfl, d1⟩ := opl.kid (j := K + 1) (c := c) (by simp [← hLC])
        have q2 := opr.at_.c1
        have q2f := opr.at_.f1
        have rlt := opr.at_.lt
        have apr := N3.out.mem.apart HR3.out opr
        have m1 : Hid (¬ ownB (.slice br rc.length kr) r) := not_own apr.b apr.self (by simp)
        have OR := hid opr.b
        obtain ⟨N2, hN2⟩ : ∃ N2, N2 = K + 2 := ⟨_, rfl⟩
        rw [← hN2] at hlc
        rw [hlc] at KL q4
        simp only at q2 OR
        have HLn1 := hid hLC
        have rlt2 : r < w6.heap.size := rlt
        have q2a : ∀ o, (w6.alloc o).cell? ⟨r, 1, none⟩ = some (.slice br rc.length kr) := fun o => TE.keep1 (bx _ _) q2
        have q4a : ∀ o, (w6.alloc o).cell? ⟨l, 1, none⟩ = some (.slice (some ⟨gl, lo, none⟩) N2 kl) := fun o => TE.keep1 (bx _ _) q4
        have k5 : (0 : Int) ≤ (K : Int) := by omega
        have k6 : (K : Int) + 1 < (N2 : Int) := by omega
        have k8 : (N2 == 0) = false := by simp; omega
        have k7 : K + 1 < N2 := by omega
        have k9 : (K : Int) ≤ 6 := by omega
        have kw : IntKind.i64.wrap ((K : Int) + 1) = (K : Int) + 1 := IntWalk.i64_in _ ⟨by omega, by omega⟩
        clear hN2 opl opr apr hLC hlc OLb AL f4 HLC
        refine KL.out.mono ?_
        rintro r6 w7 ⟨rfl, rfl⟩
        clear KL
        go_upto_region 6 with fail
        go_cut [] from 71 to 87 (fun wx => Hid (∃ o4, Now w o wx o4 (M3.put r ⟨⟨sk, st⟩ :: R, c :: rc⟩)))
        case first =>
          go_region_with ((go_at_call 77; refine (insP (X := rc) (c := c) 0 rfl (OR.out.below (ad _ _)) (show (w7.alloc _).heap[w7.heap.size]? = _ from heap_alloc_new w7 _) (own_alloc_ne' OR.out) (by omega) (Nat.zero_le _)).mono ?_; rintro r3 w3 ⟨v3, rfl, ho3, g3⟩; have z1 := goes_cell g3 (TE.keep1 (ad _ _) q2) m1.out; have z2 := goes_frz g3 ((ad w7 _).frozen (p := ⟨r, 1, none⟩) rlt |>.trans q2f) (by simp; omega) m1.out; have HO3 := hid ho3; have G3 := hid g3; obtain ⟨a3, c3, rfl, -⟩ := ho3.at_; clear ho3 g3))
          all_goals (go_wp2_with fail; go_meet; case rel => exact hid ((N3.out.below (ad _ _)).setP HR3.out (TE.keep1 (ad _ _) q2) G3.out HO3.out (by simp)))
        case rest =>
          obtain ⟨o4, hN4⟩ := hcut.out
          have N4 := hid hN4
          clear hcut hN4 N3 q2 q2f rlt rlt2 q2a q4a m1 d1 OR q4 llt
          obtain ⟨M4, hM4⟩ : ∃ M4, M4 = M3.put r ⟨⟨sk, st⟩ :: R, c :: rc⟩ := ⟨_, rfl⟩
          rw [← hM4] at N4
          have HP4 : Hid (M4 p = some ⟨X.set i ⟨xk, xt⟩, C⟩) := by rw [hM4]; exact (Sto.put_ne _ _ n2).trans HP3.out
          have HL4 : Hid (M4 l = some ⟨L, LC ++ [c]⟩) := by rw [hM4]; exact (Sto.put_ne _ _ n3).trans HL3.out
          have HR4 : Hid (M4 r = some ⟨⟨sk, st⟩ :: R, c :: rc⟩) := by rw [hM4]; exact Sto.put_at _ _ _
          have F4 : Hid (Off M M4 [p, l, r]) := by rw [hM4]; exact fun q hq => (Sto.put_ne _ _ (fun e => hq (by rw [e]; simp))).trans (F3.out q hq)
          clear hM4 HP3 HL3 HR3 F3
          obtain ⟨al, cl, bl, kl, opl⟩ := N4.out.mem.open_ HL4.out
          obtain ⟨gl, cl', e, -⟩ := TP.OwnPg.some opl.b (by simp)
          injection e with e1 _ e3
          subst e1; subst e3
          have q1 := opl.at_.c1
          have f1 := opl.at_.f1
          have llt := opl.at_.lt
          have apl := N4.out.mem.apart HL4.out opl
          have OL := hid opl.b
          simp only [List.length_append, List.length_cons, List.length_nil, Nat.zero_add, HLn1.out] at q1 OL
          have QL := hid q1
          have m1 : Hid (¬ ownB (.slice (some ⟨gl, 0, none⟩) (K + 1 + 1) kl) l) := not_own apl.b apl.self (by simp)
          clear opl apl
          go_wp2_with fail
          refine (delP (X := LC ++ [c]) (K + 1) (K + 2) (by omega) (by omega) (by simp [HLn1.out]) OL.out (by omega) (by omega) (by omega)).mono ?_
          rintro r5 w5 ⟨v5, rfl, ho5, g5⟩
          have z1 := goes_cell g5 QL.out m1.out
          have z2 := goes_frz g5 f1 llt m1.out
          have eL : (LC ++ [c]).take (K + 1) ++ (LC ++ [c]).drop (K + 2) = LC := by
            rw [← HLn1.out, List.take_left, List.drop_of_length_le (by simp [HLn1.out]), List.append_nil]
          rw [eL] at ho5
          clear eL
          obtain ⟨a5, c5, rfl, -⟩ := ho5.at_
          obtain ⟨o5, hN5⟩ := N4.out.setP HL4.out QL.out g5 ho5 rfl
          have N5 := hid hN5
          clear ho5 g5 q1 f1 hN5
          go_wp2_with fail
          go_end0
          have e1 : (LC ++ [c]).take (K + 1) = LC := by rw [← HLn1.out, List.take_left]
          have e2 : (LC ++ [c]).drop (K + 1) = [c] := by rw [← HLn1.out, List.drop_left]
          refine ⟨rfl, o5, M4.put l ⟨L, LC⟩, ?_, ?_, (Sto.put_ne _ _ n1).trans HP4.out, ?_, ?_, fun q hq => (Sto.put_ne _ _ (fun e => hq (by rw [e]; simp))).trans (F4.out q hq)⟩
          · simpa using N5.out.mem
          · simpa using N5.out.go
          · rw [e1]; exact Sto.put_at _ _ _
          · rw [e2]; exact (Sto.put_ne _ _ (Ne.symm n3)).trans HR4.out
end Go.Proofs.Ytlefcjgemojhpab.PTree
