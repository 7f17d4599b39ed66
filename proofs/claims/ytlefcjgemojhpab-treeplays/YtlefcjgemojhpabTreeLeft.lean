/- tree's shiftLeft, walked: a key goes from the right of two neighbours up, and what was up to the left one; with it, where there is one, what is below it. Conditions: how many there are. -/
import Derived.Test.YtlefcjgemojhpabTreeApp
namespace Go.Proofs.Ytlefcjgemojhpab.PTree
open Go Go.RowKit PPool
set_option maxRecDepth 100000
set_option maxHeartbeats 4000000 in
theorem left_any (w : World) (o : Lab) (M : Sto) (hM : Mem w o M) (p l r i K : Nat) (X L : List En) (C lc rc : List Nat) (R : List En) (s x : En)
    (hp : M p = some ⟨X, C⟩) (hl : M l = some ⟨L, lc⟩) (hr : M r = some ⟨x :: R, rc⟩) (n1 : p ≠ l) (n2 : p ≠ r) (n3 : l ≠ r)
    (hs : X[i]? = some s) (hC1 : C[i]? = some l) (hC2 : C[i + 1]? = some r) (hX : X.length ≤ 10) (hC : C.length ≤ 11) (hR : R.length = K) (hK : K ≤ 6) (hL : L.length ≤ 6) (hlc : lc.length ≤ 7) (hrc : rc = [] ∨ rc.length = K + 2) :
    Calls Try.prog 70 #[.pointer (some ⟨p, 0, none⟩), .int .i64 (i : Int)] w fun e w' => e = .returned (.tuple #[]) ∧ ∃ o' M', Mem w' o' M' ∧ Gos o w w' o' ∧
      M' p = some ⟨X.set i x, C⟩ ∧ M' l = some ⟨L ++ [s], lc ++ rc.take 1⟩ ∧ M' r = some ⟨R, rc.drop 1⟩ ∧ Off M M' [p, l, r] := by
  have HM := hid hM
  have HRC := hid hrc
  have HP := hid hp
  have HL := hid hl
  have HR := hid hr
  have HS := hid hs
  obtain ⟨i1, -⟩ := List.getElem?_eq_some_iff.1 hC2
  obtain ⟨i2, -⟩ := List.getElem?_eq_some_iff.1 hs
  obtain ⟨ae, ce, ab, cb, op⟩ := hM.open_ hp
  obtain ⟨gb, go, rfl, d1⟩ := op.kid hC1
  obtain ⟨_, _, e, d2⟩ := op.kid hC2
  cases e
  have c1 := op.at_.c1
  clear hM hp hl hr hs hC1 hC2 hrc op
  simp only at c1
  generalize hCn : C.length = CN at *
  generalize hXn : X.length = XN at *
  have HCn := hid hCn
  have HXn := hid hXn
  have HRn := hid hR
  clear hCn hXn hR
  have k0 : (0 : Int) ≤ (i : Int) := by omega
  have k1 : (i : Int) < (CN : Int) := by omega
  have k2 : (i : Int) + 1 < (CN : Int) := by omega
  have k3 : (i : Int) < (XN : Int) := by omega
  go_enter Try.func70, Try.ntmps70
  go_wp2_with fail
  go_quiet (fail)
  have N0 : Hid (Now w o (w.drewN nq) o M) := (⟨HM.out, Gos.refl _ _⟩ : Now w o w o M).below (below_drewN (Below.refl _ _) _)
  generalize w.drewN nq = w1 at *
  clear c1 d1 d2
  obtain ⟨al, cl, bl, kl, opl⟩ := N0.out.mem.open_ HL.out
  obtain ⟨ae, ce, ab, cb, op⟩ := N0.out.mem.open_ HP.out
  obtain ⟨ge, eo, rfl, d1, d2⟩ := op.ent HS.out
  have q2 := opl.at_.c0
  have q2f := opl.at_.f0
  have llt := opl.at_.lt
  have q3 := op.at_.c0
  have apl := N0.out.mem.apart HL.out opl
  have m1 : Hid (¬ ownB (.slice al L.length cl) l) := not_own apl.e apl.self (by simp)
  have OL := hid opl.e
  simp only at q2 q3 OL
  rw [HXn.out] at q3
  clear opl op apl ab bl
  obtain ⟨sk, st⟩ := s
  simp only at d1 d2
  have q2a : ∀ o, (w1.alloc o).cell? ⟨l, 0, none⟩ = some (.slice al L.length cl) := fun o => TE.keep1 (bx _ _) q2
  have q3a : ∀ o, (w1.alloc o).cell? ⟨p, 0, none⟩ = some (.slice (some ⟨ge, eo, none⟩) XN ce) := fun o => TE.keep1 (bx _ _) q3
  go_upto_region 1 with fail
  go_cut [] from 21 to 36 (fun wx => Hid (∃ o1, Now w o wx o1 (M.put l ⟨L ++ [⟨sk, st⟩], lc⟩)))
  case first =>
    go_region_law ((refine step_app_E (by rfl) _ _ (by rfl) (.slice al L.length cl) L (by rfl) (OL.out.below (ad _ _)) (some ⟨w1.heap.size, 0, none⟩) 1 1 [(⟨sk, st⟩ : En)] rfl (by rfl) (TE.OneAt.at_ (show (w1.alloc _).heap[w1.heap.size]? = _ from heap_alloc_new w1 _)) (by simp) (by omega) ?_; intro v3 w3 ho3 g3; have z1 := goes_cell g3 (TE.keep1 (ad _ _) q2) m1.out; have z2 := goes_frz g3 ((ad w1 _).frozen (p := ⟨l, 0, none⟩) llt |>.trans q2f) (by simp; omega) m1.out; have HO3 := hid ho3; have G3 := hid g3; obtain ⟨a3, c3, rfl, -⟩ := ho3.at_; clear ho3 g3))
    all_goals (go_wp2_with fail; go_meet; case rel => exact hid ((N0.out.below (ad _ _)).setE HL.out (TE.keep1 (ad _ _) q2) G3.out HO3.out (by simp)))
  case rest =>
    obtain ⟨o1, hN1⟩ := hcut.out
    have N1 := hid hN1
    clear hcut hN1 N0 q2 q2f llt q3 q2a q3a m1 d1 d2 OL
    obtain ⟨M1, hM1⟩ : ∃ M1, M1 = M.put l ⟨L ++ [⟨sk, st⟩], lc⟩ := ⟨_, rfl⟩
    rw [← hM1] at N1
    have HP1 : Hid (M1 p = some ⟨X, C⟩) := by rw [hM1]; exact (Sto.put_ne _ _ n1).trans HP.out
    have HL1 : Hid (M1 l = some ⟨L ++ [⟨sk, st⟩], lc⟩) := by rw [hM1]; exact Sto.put_at _ _ _
    have HR1 : Hid (M1 r = some ⟨x :: R, rc⟩) := by rw [hM1]; exact (Sto.put_ne _ _ (Ne.symm n3)).trans HR.out
    have F1 : Hid (Off M M1 [p, l, r]) := by rw [hM1]; exact fun q hq => Sto.put_ne _ _ (fun e => hq (by rw [e]; simp))
    clear hM1 HP HL HR HM
    obtain ⟨ar, cr, br, kr, opr⟩ := N1.out.mem.open_ HR1.out
    obtain ⟨ae, ce, ab, cb, op⟩ := N1.out.mem.open_ HP1.out
    obtain ⟨ge, ce', e, hge⟩ := op.e.some (by show 0 < X.length; rw [HXn.out]; omega)
    injection e with e1 _ e3
    subst e1; subst e3
    obtain ⟨gr, ro, rfl, d1, d2⟩ := opr.ent (j := 0) (x := x) (by simp)
    have q1 := opr.at_.c0
    have q3 := op.at_.c0
    have OE := hid op.e
    simp only at OE
    rw [HXn.out] at OE
    have QE : Hid (wc.cell? ⟨p, 0, none⟩ = some (.slice (some ⟨ge, 0, none⟩) XN ce)) := by rw [← HXn.out]; exact q3
    obtain ⟨x1, x2⟩ := OE.out.cells HS.out
    have f1 := OE.out.fz (i * 2)
    have f2 := OE.out.fz (i * 2 + 1)
    simp only [List.length_cons, HRn.out, HXn.out] at q1 q3
    obtain ⟨xk, xt⟩ := x
    simp only [Nat.zero_mul, Nat.add_zero] at d1 d2 x1 x2
    clear opr op ab hge
    go_upto_region 2 with fail
    go_cut [] from 37 to 48 (fun wx => Hid (Now w o wx o1 (M1.put p ⟨X.set i ⟨xk, xt⟩, C⟩)))
    case first =>
      go_region_with (fail)
      all_goals (go_wp2_with fail; go_meet; case rel => exact hid (Now.drew (N1.out.entry HP1.out QE.out OE.out i (by rw [HXn.out]; omega) xk xt)))
    case rest =>
      have N2 := hid hcut.out
      obtain ⟨M2, hM2⟩ : ∃ M2, M2 = M1.put p ⟨X.set i ⟨xk, xt⟩, C⟩ := ⟨_, rfl⟩
      rw [← hM2] at N2
      have HP2 : Hid (M2 p = some ⟨X.set i ⟨xk, xt⟩, C⟩) := by rw [hM2]; exact Sto.put_at _ _ _
      have HL2 : Hid (M2 l = some ⟨L ++ [⟨sk, st⟩], lc⟩) := by rw [hM2]; exact (Sto.put_ne _ _ (Ne.symm n1)).trans HL1.out
      have HR2 : Hid (M2 r = some ⟨⟨xk, xt⟩ :: R, rc⟩) := by rw [hM2]; exact (Sto.put_ne _ _ (Ne.symm n2)).trans HR1.out
      have F2 : Hid (Off M M2 [p, l, r]) := by rw [hM2]; exact fun q hq => (Sto.put_ne _ _ (fun e => hq (by rw [e]; simp))).trans (F1.out q hq)
      clear hcut hM2 HP1 HL1 HR1 F1 q1 q3 d1 d2 x1 x2 f1 f2 QE OE N1 HS
      obtain ⟨ar, cr, br, kr, opr⟩ := N2.out.mem.open_ HR2.out
      obtain ⟨gr, cr', e, hgr⟩ := opr.e.some (by simp)
      injection e with e1 _ e3
      subst e1; subst e3
      have q1 := opr.at_.c0
      have f1 := opr.at_.f0
      have rlt := opr.at_.lt
      have apr := N2.out.mem.apart HR2.out opr
      have OR := hid opr.e
      simp only [List.length_cons, HRn.out] at q1 OR apr
      have QR := hid q1
      have m1 : Hid (¬ ownB (.slice (some ⟨gr, 0, none⟩) (K + 1) cr) r) := not_own apr.e apr.self (by simp)
      clear opr apr hgr
      go_wp2_with fail
      refine (delE (X := ⟨xk, xt⟩ :: R) 0 1 rfl rfl (by simp [HRn.out]) OR.out (by omega) (by omega) (by omega)).mono ?_
      rintro r5 w5 ⟨v5, rfl, ho5, g5⟩
      have z1 := goes_cell g5 QR.out m1.out
      have z2 := goes_frz g5 f1 rlt m1.out
      have eL : ((⟨xk, xt⟩ : En) :: R).take 0 ++ ((⟨xk, xt⟩ : En) :: R).drop 1 = R := by simp
      rw [eL] at ho5
      clear eL
      obtain ⟨a5, c5, rfl, -⟩ := ho5.at_
      obtain ⟨o3, hN3⟩ := N2.out.setE HR2.out QR.out g5 ho5 rfl
      have N3 := hid hN3
      clear ho5 g5 q1 f1 hN3
      go_wp2_with fail
      generalize w5.setCell ⟨r, 0, none⟩ (.slice a5 R.length c5) = w6 at *
      obtain ⟨M3, hM3⟩ : ∃ M3, M3 = M2.put r ⟨R, rc⟩ := ⟨_, rfl⟩
      rw [← hM3] at N3
      have HP3 : Hid (M3 p = some ⟨X.set i ⟨xk, xt⟩, C⟩) := by rw [hM3]; exact (Sto.put_ne _ _ n2).trans HP2.out
      have HL3 : Hid (M3 l = some ⟨L ++ [⟨sk, st⟩], lc⟩) := by rw [hM3]; exact (Sto.put_ne _ _ n3).trans HL2.out
      have HR3 : Hid (M3 r = some ⟨R, rc⟩) := by rw [hM3]; exact Sto.put_at _ _ _
      have F3 : Hid (Off M M3 [p, l, r]) := by rw [hM3]; exact fun q hq => (Sto.put_ne _ _ (fun e => hq (by rw [e]; simp))).trans (F2.out q hq)
      clear hM3 HP2 HL2 HR2 F2 N2 z1 z2 m1 QR OR rlt
      obtain ⟨ar, cr, br, kr, opr⟩ := N3.out.mem.open_ HR3.out
      have KL := hid (last_any w6 r _ ar cr br kr opr)
      have q4 := opr.at_.c1
      simp only at KL q4
      rcases HRC.out with rfl | hrc
      · clear q4 opr
        simp only [List.length_nil] at KL
        refine KL.out.mono ?_
        rintro r6 w7 ⟨rfl, rfl⟩
        go_wp2_with fail
        go_end0
        exact ⟨rfl, o3, M3, N3.out.mem, N3.out.go, HP3.out, by rw [List.take_nil, List.append_nil]; exact HL3.out, by rw [List.drop_nil]; exact HR3.out, F3.out⟩
      · obtain ⟨c, RC, rfl, hRC⟩ : ∃ c RC, rc = c :: RC ∧ RC.length = K + 1 := by
          cases rc with
          | nil => simp at hrc
          | cons c RC => exact ⟨c, RC, rfl, by simp at hrc; omega⟩
        obtain ⟨al, cl, bl, kl, opl⟩ := N3.out.mem.open_ HL3.out
        obtain ⟨gr, ro, rfl, d1⟩ := opr.kid (j := 0) (c := c) (by simp)
        have q2 := opl.at_.c1
        have q2f := opl.at_.f1
        have llt := opl.at_.lt
        have apl := N3.out.mem.apart HL3.out opl
        have m1 : Hid (¬ ownB (.slice bl lc.length kl) l) := not_own apl.b apl.self (by simp)
        have OL := hid opl.b
        obtain ⟨N2, hN2⟩ : ∃ N2, N2 = K + 2 := ⟨_, rfl⟩
        rw [← hN2] at hrc
        rw [hrc] at KL q4
        simp only [Nat.add_zero] at q2 OL d1
        have HRn1 := hid hRC
        have llt2 : l < w6.heap.size := llt
        have q2a : ∀ o, (w6.alloc o).cell? ⟨l, 1, none⟩ = some (.slice bl lc.length kl) := fun o => TE.keep1 (bx _ _) q2
        have q4a : ∀ o, (w6.alloc o).cell? ⟨r, 1, none⟩ = some (.slice (some ⟨gr, ro, none⟩) N2 kr) := fun o => TE.keep1 (bx _ _) q4
        have k5 : (0 : Int) < (N2 : Int) := by omega
        have k6 : 0 < N2 := by omega
        have k8 : (N2 == 0) = false := by simp; omega
        clear opr opl apl hRC hrc HRC hN2
        refine KL.out.mono ?_
        rintro r6 w7 ⟨rfl, rfl⟩
        clear KL
        go_upto_region 5 with fail
        go_cut [] from 60 to 74 (fun wx => Hid (∃ o4, Now w o wx o4 (M3.put l ⟨L ++ [⟨sk, st⟩], lc ++ [c]⟩)))
        case first =>
          go_region_law ((refine step_app_P (by rfl) _ _ (by rfl) (.slice bl lc.length kl) lc (by rfl) (OL.out.below (ad _ _)) (some ⟨w7.heap.size, 0, none⟩) 1 1 [c] rfl (by rfl) (TP.OneAt.at_ (show (w7.alloc _).heap[w7.heap.size]? = _ from heap_alloc_new w7 _)) (by simp) (by omega) ?_; intro v3 w3 ho3 g3; have z1 := goes_cell g3 (TE.keep1 (ad _ _) q2) m1.out; have z2 := goes_frz g3 ((ad w7 _).frozen (p := ⟨l, 1, none⟩) llt |>.trans q2f) (by simp; omega) m1.out; have HO3 := hid ho3; have G3 := hid g3; obtain ⟨a3, c3, rfl, -⟩ := ho3.at_; clear ho3 g3))
          all_goals (go_wp2_with fail; go_meet; case rel => exact hid ((N3.out.below (ad _ _)).setP HL3.out (TE.keep1 (ad _ _) q2) G3.out HO3.out (by simp)))
        case rest =>
          obtain ⟨o4, hN4⟩ := hcut.out
          have N4 := hid hN4
          clear hcut hN4 N3 q2 q2f llt llt2 q2a q4a m1 d1 OL q4
          obtain ⟨M4, hM4⟩ : ∃ M4, M4 = M3.put l ⟨L ++ [⟨sk, st⟩], lc ++ [c]⟩ := ⟨_, rfl⟩
          rw [← hM4] at N4
          have HP4 : Hid (M4 p = some ⟨X.set i ⟨xk, xt⟩, C⟩) := by rw [hM4]; exact (Sto.put_ne _ _ n1).trans HP3.out
          have HL4 : Hid (M4 l = some ⟨L ++ [⟨sk, st⟩], lc ++ [c]⟩) := by rw [hM4]; exact Sto.put_at _ _ _
          have HR4 : Hid (M4 r = some ⟨R, c :: RC⟩) := by rw [hM4]; exact (Sto.put_ne _ _ (Ne.symm n3)).trans HR3.out
          have F4 : Hid (Off M M4 [p, l, r]) := by rw [hM4]; exact fun q hq => (Sto.put_ne _ _ (fun e => hq (by rw [e]; simp))).trans (F3.out q hq)
          clear hM4 HP3 HL3 HR3 F3
          obtain ⟨ar, cr, br, kr, opr⟩ := N4.out.mem.open_ HR4.out
          obtain ⟨gr, cr', e, -⟩ := TP.OwnPg.some opr.b (by simp)
          injection e with e1 _ e3
          subst e1; subst e3
          have q1 := opr.at_.c1
          have f1 := opr.at_.f1
          have rlt := opr.at_.lt
          have apr := N4.out.mem.apart HR4.out opr
          have OR := hid opr.b
          simp only [List.length_cons, HRn1.out] at q1 OR
          have QR := hid q1
          have m1 : Hid (¬ ownB (.slice (some ⟨gr, 0, none⟩) (K + 1 + 1) kr) r) := not_own apr.b apr.self (by simp)
          clear opr apr
          go_wp2_with fail
          refine (delP (X := c :: RC) 0 1 rfl rfl (by simp [HRn1.out]) OR.out (by omega) (by omega) (by omega)).mono ?_
          rintro r5 w5 ⟨v5, rfl, ho5, g5⟩
          have z1 := goes_cell g5 QR.out m1.out
          have z2 := goes_frz g5 f1 rlt m1.out
          have eL : (c :: RC).take 0 ++ (c :: RC).drop 1 = RC := by simp
          rw [eL] at ho5
          clear eL
          obtain ⟨a5, c5, rfl, -⟩ := ho5.at_
          obtain ⟨o5, hN5⟩ := N4.out.setP HR4.out QR.out g5 ho5 rfl
          have N5 := hid hN5
          clear ho5 g5 q1 f1 hN5
          go_wp2_with fail
          go_end0
          refine ⟨rfl, o5, M4.put r ⟨R, RC⟩, ?_, ?_, (Sto.put_ne _ _ n2).trans HP4.out, ?_, ?_, fun q hq => (Sto.put_ne _ _ (fun e => hq (by rw [e]; simp))).trans (F4.out q hq)⟩
          · simpa using N5.out.mem
          · simpa using N5.out.go
          · exact (Sto.put_ne _ _ n3).trans HL4.out
          · exact Sto.put_at _ _ _
end Go.Proofs.Ytlefcjgemojhpab.PTree
