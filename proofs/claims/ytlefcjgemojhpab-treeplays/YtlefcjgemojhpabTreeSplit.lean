/- tree's split, walked: a child with one key too many parts in two, the key between them goes up. Conditions: how many there are. -/
import Derived.Test.YtlefcjgemojhpabTreeApp
namespace Go.Proofs.Ytlefcjgemojhpab.PTree
open Go Go.RowKit PPool
set_option maxRecDepth 100000
theorem pg_dropE {w : World} {g : Nat} {X : List En} (h : TE.PgAt w (some ⟨g, 0, none⟩) X) (k : Nat) : TE.PgAt w (some ⟨g, k * 2, none⟩) (X.drop k) := by
  have := h.drop k
  rwa [Nat.zero_add] at this
theorem pg_dropP {w : World} {g : Nat} {X : List TP.Pt} (h : TP.PgAt w (some ⟨g, 0, none⟩) X) (k : Nat) : TP.PgAt w (some ⟨g, k, none⟩) (X.drop k) := by
  have := RowAt.drop h k
  rwa [Nat.zero_add] at this
theorem goes_new {w w1 : World} {v v' : Value} (hb : Below w.heap.size w w1) (h : ∀ g, v'.ownBlock = some g → w.heap.size ≤ g) : Goes (ownB v) w w1 (ownB v') :=
  ⟨hb.os, hb.tape, hb.output, hb.size, fun k hk _ => hb.block k hk, fun k hk => .inr (h k hk)⟩
theorem frz_new (w : World) (c : Array Value) (t : TypeId) (i : Nat) : (w.alloc (.cells c t)).frozen? ⟨w.heap.size, i, none⟩ = false := by
  have := heap_alloc_new w (.cells c t)
  simp only [World.frozen?, this]
  rfl
set_option maxHeartbeats 4000000 in
theorem split_any (w : World) (o : Lab) (M : Sto) (hM : Mem w o M) (p l i : Nat) (X L R : List En) (m : En) (C lc : List Nat)
    (hp : M p = some ⟨X, C⟩) (hl : M l = some ⟨L ++ m :: R, lc⟩) (n1 : p ≠ l)
    (hi : i ≤ X.length) (hC1 : C[i]? = some l) (hX : X.length ≤ 10) (hC : C.length ≤ 11) (hL : L.length = 2) (hR : R.length = 2) (hlc : lc = [] ∨ lc.length = 6) :
    Calls Try.prog 62 #[.pointer (some ⟨p, 0, none⟩), .int .i64 (i : Int)] w fun e w' => e = .returned (.tuple #[]) ∧ ∃ o' M' q, w.heap.size ≤ q ∧ Mem w' o' M' ∧ Gos o w w' o' ∧
      M' p = some ⟨X.take i ++ m :: X.drop i, C.take (i + 1) ++ q :: C.drop (i + 1)⟩ ∧ M' l = some ⟨L, lc.take 3⟩ ∧ M' q = some ⟨R, lc.drop 3⟩ ∧ Off M M' [p, l, q] := by
  have HM := hid hM
  have HLC := hid hlc
  have HP := hid hp
  have HL := hid hl
  obtain ⟨i1, -⟩ := List.getElem?_eq_some_iff.1 hC1
  obtain ⟨ae, ce, ab, cb, op⟩ := hM.open_ hp
  obtain ⟨al, cl, bl, kl, opl⟩ := hM.open_ hl
  obtain ⟨gb, go, rfl, d1⟩ := op.kid hC1
  obtain ⟨gl, cl', e, hgl⟩ := opl.e.some (by simp; omega)
  injection e with e1 _ e3
  subst e1; subst e3
  have c1 := op.at_.c1
  have q1 := opl.at_.c0
  have OL := hid opl.e
  have e5 : (L ++ m :: R).length = 5 := by simp [hL, hR]
  simp only at c1 q1 OL hgl
  rw [e5] at q1 OL hgl
  have HD : Hid (TE.PgAt w (some ⟨gl, 6, none⟩) R) := by
    have := pg_dropE (TE.own_pg OL.out) 3
    rwa [show (L ++ m :: R).drop 3 = R by rw [List.drop_append, hL, List.drop_of_length_le (by omega)]; rfl] at this
  have KC := hid (TE.clone_any w (some ⟨gl, 6, none⟩) (cl - 3) R HD.out (by omega))
  rw [hR] at KC
  have hw2 : ¬ cl = 3 := by omega
  have hw3 : (3 : Int) ≤ (cl : Int) := by omega
  generalize hCn : C.length = CN at *
  have HCn := hid hCn
  have HLn := hid hL
  have HRn := hid hR
  have HI := hid hi
  have z := Try.sizeOf87
  have u := Try.underlying74
  clear hM hp hl hC1 hlc op opl hCn hL hR hi OL HD e5
  have k0 : (0 : Int) ≤ (i : Int) := by omega
  have k1 : (i : Int) < (CN : Int) := by omega
  go_enter Try.func62, Try.ntmps62
  go_wp2_with fail
  refine KC.out.mono ?_
  rintro r1 w1 ⟨v1, rfl, ho1, hb1⟩
  obtain ⟨a1, c1', rfl, -⟩ := ho1.at_
  go_upto_region 2 with fail
  have HS1 : Hid (w.heap.size ≤ w1.heap.size) := hb1.size
  obtain ⟨o1, hN1⟩ : ∃ o1, Now w o (w1.alloc (.cells #[.slice a1 R.length c1', .slice none 0 0] 77)) o1 (M.put w1.heap.size ⟨R, []⟩) := by
    have hb2 : Below w.heap.size w (w1.alloc (.cells #[.slice a1 R.length c1', .slice none 0 0] 77)) := below_tr hb1 (bx _ _)
    obtain ⟨o1, h1, h2⟩ := HM.out.newNode (q := w1.heap.size) (ve := .slice a1 R.length c1') (vb := .slice none 0 0) (n := ⟨R, []⟩) hb1.size hb2
      ⟨World.cell?_alloc_new _ _ _ _, World.cell?_alloc_new _ _ _ _, frz_new _ _ _ _, frz_new _ _ _ _⟩ (ho1.below (bx _ _)) (OwnR.nil _ _) (own_alloc_ne ho1) (by simp [Value.ownBlock]) (fun g hg => by simp [Value.ownBlock])
    exact ⟨o1, h1, h2⟩
  have hq : w.heap.size ≤ w1.heap.size := hb1.size
  have N1 := hid hN1
  have hlq : Hid (l ≠ w1.heap.size) := by have := HM.out.lt_of HL.out; show _ ≠ _; omega
  have hpq : Hid (p ≠ w1.heap.size) := by have := HM.out.lt_of HP.out; show _ ≠ _; omega
  clear hN1 hb1 ho1 c1 q1 d1 KC hw2 hw3 u z HM hgl
  generalize w1.alloc (.cells #[.slice a1 R.length c1', .slice none 0 0] 77) = w2 at *
  generalize w1.heap.size = q at *
  obtain ⟨M1, hM1⟩ : ∃ M1, M1 = M.put q ⟨R, []⟩ := ⟨_, rfl⟩
  rw [← hM1] at N1
  have HP1 : Hid (M1 p = some ⟨X, C⟩) := by rw [hM1]; exact (Sto.put_ne _ _ hpq.out).trans HP.out
  have HL1 : Hid (M1 l = some ⟨L ++ m :: R, lc⟩) := by rw [hM1]; exact (Sto.put_ne _ _ hlq.out).trans HL.out
  have HQ1 : Hid (M1 q = some ⟨R, []⟩) := by rw [hM1]; exact Sto.put_at _ _ _
  have F1 : Hid (Off M M1 [p, l, q]) := by rw [hM1]; exact fun r hr => Sto.put_ne _ _ (fun e => hr (by rw [e]; simp))
  clear hM1 HP HL
  obtain ⟨al, cl, bl, kl, opl⟩ := N1.out.mem.open_ HL1.out
  obtain ⟨ae, ce, ab, cb, op⟩ := N1.out.mem.open_ HP1.out
  obtain ⟨gl, lo, rfl, d1, d2⟩ := opl.ent (j := 2) (x := m) (by simp [← HLn.out])
  have q2 := op.at_.c0
  have q2f := op.at_.f0
  have plt := op.at_.lt
  have q3 := opl.at_.c0
  have ap := N1.out.mem.apart HP1.out op
  have m1 : Hid (¬ ownB (.slice ae X.length ce) p) := not_own ap.e ap.self (by simp)
  have OE := hid op.e
  have e5 : (L ++ m :: R).length = 5 := by simp [HLn.out, HRn.out]
  simp only at q2 q3 OE
  rw [e5] at q3
  clear opl op ap ab bl e5
  obtain ⟨mk, mt⟩ := m
  simp only at d1 d2
  have q2a : ∀ o, (w2.alloc o).cell? ⟨p, 0, none⟩ = some (.slice ae X.length ce) := fun o => TE.keep1 (bx _ _) q2
  have q3a : ∀ o, (w2.alloc o).cell? ⟨l, 0, none⟩ = some (.slice (some ⟨gl, lo, none⟩) 5 cl) := fun o => TE.keep1 (bx _ _) q3
  obtain ⟨X3, hX3⟩ : ∃ X3, X3 = X.take i ++ (⟨mk, mt⟩ : En) :: X.drop i := ⟨_, rfl⟩
  have HX3 := hid hX3
  clear hX3
  go_cut [] from 21 to 36 (fun wx => Hid (∃ o2, Now w o wx o2 (M1.put p ⟨X3, C⟩)))
  case first =>
    go_region_with ((go_at_call 61; refine (insE (X := X) i rfl (OE.out.below (ad _ _)) (show (w2.alloc _).heap[w2.heap.size]? = _ from heap_alloc_new w2 _) (own_alloc_ne OE.out) (by omega) HI.out).mono ?_; rintro r3 w3 ⟨v3, rfl, ho3, g3⟩; rw [← HX3.out] at ho3; obtain ⟨a3, c3, rfl, -⟩ := ho3.at_; have z1 := goes_cell g3 (TE.keep1 (ad _ _) q2) m1.out; have z2 := goes_frz g3 ((ad w2 _).frozen (p := ⟨p, 0, none⟩) plt |>.trans q2f) (by simp; omega) m1.out; have G3 := hid ((N1.out.below (ad _ _)).setE HP1.out (TE.keep1 (ad _ _) q2) g3 ho3 rfl); clear ho3 g3))
    all_goals (go_wp2_with fail; go_meet; case rel => exact G3)
  case rest =>
    obtain ⟨o2, hN2⟩ := hcut.out
    have N2 := hid hN2
    clear hcut hN2 N1 q2 q2f plt q3 q2a q3a m1 d1 d2 OE
    obtain ⟨M2, hM2⟩ : ∃ M2, M2 = M1.put p ⟨X3, C⟩ := ⟨_, rfl⟩
    rw [← hM2] at N2
    have HP2 : Hid (M2 p = some ⟨X3, C⟩) := by rw [hM2]; exact Sto.put_at _ _ _
    have HL2 : Hid (M2 l = some ⟨L ++ ⟨mk, mt⟩ :: R, lc⟩) := by rw [hM2]; exact (Sto.put_ne _ _ (Ne.symm n1)).trans HL1.out
    have HQ2 : Hid (M2 q = some ⟨R, []⟩) := by rw [hM2]; exact (Sto.put_ne _ _ (Ne.symm hpq.out)).trans HQ1.out
    have F2 : Hid (Off M M2 [p, l, q]) := by rw [hM2]; exact fun r hr => (Sto.put_ne _ _ (fun e => hr (by rw [e]; simp))).trans (F1.out r hr)
    clear hM2 HP1 HL1 HQ1 F1
    obtain ⟨al, cl, bl, kl, opl⟩ := N2.out.mem.open_ HL2.out
    obtain ⟨gl, cl', e, hgl⟩ := opl.e.some (by simp; omega)
    injection e with e1 _ e3
    subst e1; subst e3
    have q1 := opl.at_.c0
    have f1 := opl.at_.f0
    have llt := opl.at_.lt
    have apl := N2.out.mem.apart HL2.out opl
    have OL := hid opl.e
    have e5 : (L ++ (⟨mk, mt⟩ : En) :: R).length = 5 := by simp [HLn.out, HRn.out]
    simp only at q1 OL
    rw [e5] at q1 OL
    have m1 : Hid (¬ ownB (.slice (some ⟨gl, 0, none⟩) 5 cl) l) := not_own apl.e apl.self (by simp)
    have E5 := hid e5
    have HE : Hid ((L ++ (⟨mk, mt⟩ : En) :: R).take 2 ++ (L ++ (⟨mk, mt⟩ : En) :: R).drop 5 = L) := by
      show _ = _
      rw [List.drop_of_length_le (by rw [e5]; exact Nat.le_refl _), List.append_nil]
      conv => lhs; arg 1; rw [← HLn.out]
      exact List.take_left
    clear opl apl hgl e5
    go_upto_region 3 with fail
    go_cut [] from 37 to 49 (fun wx => Hid (∃ o3, Now w o wx o3 (M2.put l ⟨L, lc⟩)))
    case first =>
      go_region_with ((go_at_call 58; refine (delE (X := L ++ ⟨mk, mt⟩ :: R) 2 5 rfl rfl E5.out (OL.out.below (Below.refl _ _).drew) (by omega) (by omega) (by omega)).mono ?_; rintro r3 w3 ⟨v3, rfl, ho3, g3⟩; rw [HE.out] at ho3; obtain ⟨a3, c3, rfl, -⟩ := ho3.at_; have z1 := goes_cell g3 (TE.keep1 (Below.refl _ _).drew q1) m1.out; have z2 := goes_frz g3 f1 llt m1.out; have G3 := hid ((N2.out.below (Below.refl _ _).drew).setE HL2.out (TE.keep1 (Below.refl _ _).drew q1) g3 ho3 rfl); clear ho3 g3))
      all_goals (go_wp2_with fail; go_meet; case rel => exact G3)
    case rest =>
      obtain ⟨o3, hN3⟩ := hcut.out
      have N3 := hid hN3
      clear hcut hN3 N2 q1 f1 llt m1 OL E5 HE
      obtain ⟨M3, hM3⟩ : ∃ M3, M3 = M2.put l ⟨L, lc⟩ := ⟨_, rfl⟩
      rw [← hM3] at N3
      have HP3 : Hid (M3 p = some ⟨X3, C⟩) := by rw [hM3]; exact (Sto.put_ne _ _ n1).trans HP2.out
      have HL3 : Hid (M3 l = some ⟨L, lc⟩) := by rw [hM3]; exact Sto.put_at _ _ _
      have HQ3 : Hid (M3 q = some ⟨R, []⟩) := by rw [hM3]; exact (Sto.put_ne _ _ (Ne.symm hlq.out)).trans HQ2.out
      have F3 : Hid (Off M M3 [p, l, q]) := by rw [hM3]; exact fun r hr => (Sto.put_ne _ _ (fun e => hr (by rw [e]; simp))).trans (F2.out r hr)
      clear hM3 HP2 HL2 HQ2 F2
      obtain ⟨al, cl, bl, kl, opl⟩ := N3.out.mem.open_ HL3.out
      have KL := hid (last_any wc l _ al cl bl kl opl)
      have q4 := opl.at_.c1
      have OB0 := hid opl.b
      simp only at KL q4 OB0
      clear opl
      go_upto_region 4 with fail
      rcases HLC.out with rfl | hlc
      · clear q4 OB0
        simp only [List.length_nil] at KL
        go_wp2_with fail
        refine KL.out.mono ?_
        rintro r6 w6 ⟨rfl, rfl⟩
        go_upto_region 7 with fail
        obtain ⟨ae, ce, ab, cb, op⟩ := N3.out.mem.open_ HP3.out
        obtain ⟨gb, cb', e, -⟩ := TP.OwnPg.some op.b (by show 0 < (C.map pt).length; rw [List.length_map, HCn.out]; omega)
        injection e with e1 _ e3
        subst e1; subst e3
        have p1 := op.at_.c1
        have f1 := op.at_.f1
        have plt := op.at_.lt
        have ap := N3.out.mem.apart HP3.out op
        have OB := hid op.b
        simp only at p1 OB
        rw [HCn.out] at p1 OB
        have QB := hid p1
        have m1 : Hid (¬ ownB (.slice (some ⟨gb, 0, none⟩) CN cb) p) := not_own ap.b ap.self (by simp)
        have k2 : (i : Int) + 1 ≤ 12 := by omega
        clear op ap
        go_wp2_with fail
        refine (insP (X := C) (c := q) (i + 1) (by omega) (OB.out.below (bx _ _)) (heap_alloc_new _ _) (own_alloc_ne' OB.out) (by rw [HCn.out]; omega) (by rw [HCn.out]; omega)).mono ?_
        rintro r7 w7 ⟨v7, rfl, ho7, g7⟩
        have z1 := goes_cell g7 (TE.keep1 (bx _ _) QB.out) m1.out
        have z2 := goes_frz g7 ((bx _ _).frozen (p := ⟨p, 1, none⟩) plt |>.trans f1) (by simp; omega) m1.out
        obtain ⟨C', hC'⟩ : ∃ C', C' = C.take (i + 1) ++ q :: C.drop (i + 1) := ⟨_, rfl⟩
        rw [← hC'] at ho7
        obtain ⟨a7, c7, rfl, -⟩ := ho7.at_
        obtain ⟨o7, hN7⟩ := (N3.out.below (bx _ _)).setP HP3.out (TE.keep1 (bx _ _) QB.out) g7 ho7 rfl
        have N7 := hid hN7
        have HC' := hid hC'
        clear ho7 g7 p1 f1 hN7 hC'
        go_wp2_with fail
        go_end0
        rw [← HX3.out]
        refine ⟨rfl, o7, M3.put p ⟨X3, C'⟩, q, HS1.out, ?_, ?_, by rw [← HC'.out]; exact Sto.put_at _ _ _, ?_, ?_, fun r hr => (Sto.put_ne _ _ (fun e => hr (by rw [e]; simp))).trans (F3.out r hr)⟩
        · simpa using N7.out.mem
        · simpa using N7.out.go
        · exact (Sto.put_ne _ _ (Ne.symm n1)).trans (by rw [List.take_nil]; exact HL3.out)
        · exact (Sto.put_ne _ _ (Ne.symm hpq.out)).trans (by rw [List.drop_nil]; exact HQ3.out)
      · obtain ⟨aq, cq, bq, kq, opq⟩ := N3.out.mem.open_ HQ3.out
        obtain ⟨gl, kl', e, hkl⟩ := TP.OwnPg.some OB0.out (by rw [List.length_map, hlc]; omega)
        rw [hlc] at KL q4 OB0
        injection e with e1 _ e3
        subst e1; subst e3
        rw [List.length_map, hlc] at hkl
        have p4 := opq.at_.c1
        have f4 := opq.at_.f1
        have qlt := opq.at_.lt
        simp only [List.length_nil] at p4
        have P4 := hid p4
        obtain ⟨RC, hRC⟩ : ∃ RC, RC = lc.drop 3 := ⟨_, rfl⟩
        have hRn : RC.length = 3 := by rw [hRC, List.length_drop, hlc]
        have KC0 := TP.clone_any wc (some ⟨gl, 3, none⟩) (kl - 3) (RC.map pt) (by
          rw [hRC]
          have := pg_dropP (TP.own_pg OB0.out) 3
          rwa [← List.map_drop] at this) (by rw [List.length_map, hRn]; omega)
        rw [show (RC.map pt).length = 3 by rw [List.length_map, hRn]] at KC0
        have KC := hid KC0
        clear KC0
        have HLCn := hid hlc
        have HRC := hid hRC
        clear hRC hRn
        have hw2 : ¬ kl = 3 := by omega
        have hw3 : (3 : Int) ≤ (kl : Int) := by omega
        have zs := Try.sizeOf82
        have us := Try.underlying75
        clear opq hlc HLC OB0 hkl
        go_wp2_with fail
        refine KL.out.mono ?_
        rintro r6 w6 ⟨rfl, rfl⟩
        go_upto_region 5 with fail
        go_wp2_with fail
        refine KC.out.mono ?_
        rintro r8 w8 ⟨v8, rfl, ho8, hb8⟩
        have z1 := TE.keep1 hb8 P4.out
        have z2 := (hb8.frozen (p := ⟨q, 1, none⟩) qlt).trans f4
        obtain ⟨a8, c8, rfl, -⟩ := ho8.at_
        obtain ⟨o4, hN4⟩ := N3.out.setP HQ3.out P4.out (goes_new hb8 fun g hg => (ho8.lt g hg).1) (ho8.lower (Nat.zero_le _)) rfl
        have N4 := hid hN4
        clear hN4 ho8 hb8 p4 f4 hw2 hw3 zs us q4
        go_upto_region 6 with fail
        simp only [List.length_map] at N4
        generalize w8.setCell ⟨q, 1, none⟩ (.slice a8 RC.length c8) = w9 at *
        obtain ⟨M4, hM4⟩ : ∃ M4, M4 = M3.put q ⟨R, RC⟩ := ⟨_, rfl⟩
        rw [← hM4] at N4
        have HP4 : Hid (M4 p = some ⟨X3, C⟩) := by rw [hM4]; exact (Sto.put_ne _ _ hpq.out).trans HP3.out
        have HL4 : Hid (M4 l = some ⟨L, lc⟩) := by rw [hM4]; exact (Sto.put_ne _ _ hlq.out).trans HL3.out
        have HQ4 : Hid (M4 q = some ⟨R, RC⟩) := by rw [hM4]; exact Sto.put_at _ _ _
        have F4 : Hid (Off M M4 [p, l, q]) := by rw [hM4]; exact fun r hr => (Sto.put_ne _ _ (fun e => hr (by rw [e]; simp))).trans (F3.out r hr)
        clear hM4 HP3 HL3 HQ3 F3 N3 KC KL P4
        obtain ⟨al, cl, bl, kl, opl⟩ := N4.out.mem.open_ HL4.out
        obtain ⟨gl, kl', e, hkl⟩ := TP.OwnPg.some opl.b (by show 0 < (lc.map pt).length; rw [List.length_map, HLCn.out]; omega)
        injection e with e1 _ e3
        subst e1; subst e3
        have q1 := opl.at_.c1
        have f1 := opl.at_.f1
        have llt := opl.at_.lt
        have apl := N4.out.mem.apart HL4.out opl
        have OL := hid opl.b
        simp only at q1 OL
        rw [HLCn.out] at q1 OL
        have m1 : Hid (¬ ownB (.slice (some ⟨gl, 0, none⟩) 6 kl) l) := not_own apl.b apl.self (by simp)
        obtain ⟨X4, hX4⟩ : ∃ X4, X4 = lc.take 3 := ⟨_, rfl⟩
        have HX4 := hid hX4
        have HE : Hid (lc.take 3 ++ lc.drop 6 = X4) := by
          show _ = _
          rw [hX4, List.drop_of_length_le (by rw [HLCn.out]; exact Nat.le_refl _), List.append_nil]
        clear opl apl hkl hX4
        go_cut [] from 62 to 74 (fun wx => Hid (∃ o5, Now w o wx o5 (M4.put l ⟨L, X4⟩)))
        case first =>
          go_region_with ((go_at_call 76; refine (delP (X := lc) 3 6 rfl rfl HLCn.out (OL.out.below (Below.refl _ _).drew) (by omega) (by omega) (by omega)).mono ?_; rintro r3 w3 ⟨v3, rfl, ho3, g3⟩; rw [HE.out] at ho3; obtain ⟨a3, c3, rfl, -⟩ := ho3.at_; have z1 := goes_cell g3 (TE.keep1 (Below.refl _ _).drew q1) m1.out; have z2 := goes_frz g3 f1 llt m1.out; have G3 := hid ((N4.out.below (Below.refl _ _).drew).setP HL4.out (TE.keep1 (Below.refl _ _).drew q1) g3 ho3 rfl); clear ho3 g3))
          all_goals (go_wp2_with fail; go_meet; case rel => simpa using G3)
        case rest =>
          obtain ⟨o5, hN5⟩ := hcut.out
          have N5 := hid hN5
          clear hcut hN5 N4 q1 f1 llt m1 OL HE
          obtain ⟨M5, hM5⟩ : ∃ M5, M5 = M4.put l ⟨L, X4⟩ := ⟨_, rfl⟩
          rw [← hM5] at N5
          have HP5 : Hid (M5 p = some ⟨X3, C⟩) := by rw [hM5]; exact (Sto.put_ne _ _ n1).trans HP4.out
          have HL5 : Hid (M5 l = some ⟨L, X4⟩) := by rw [hM5]; exact Sto.put_at _ _ _
          have HQ5 : Hid (M5 q = some ⟨R, RC⟩) := by rw [hM5]; exact (Sto.put_ne _ _ (Ne.symm hlq.out)).trans HQ4.out
          have F5 : Hid (Off M M5 [p, l, q]) := by rw [hM5]; exact fun r hr => (Sto.put_ne _ _ (fun e => hr (by rw [e]; simp))).trans (F4.out r hr)
          clear hM5 HP4 HL4 HQ4 F4
          go_upto_region 7 with fail
          obtain ⟨ae, ce, ab, cb, op⟩ := N5.out.mem.open_ HP5.out
          obtain ⟨gb, cb', e, -⟩ := TP.OwnPg.some op.b (by show 0 < (C.map pt).length; rw [List.length_map, HCn.out]; omega)
          injection e with e1 _ e3
          subst e1; subst e3
          have p1 := op.at_.c1
          have f1 := op.at_.f1
          have plt := op.at_.lt
          have ap := N5.out.mem.apart HP5.out op
          have OB := hid op.b
          simp only at p1 OB
          rw [HCn.out] at p1 OB
          have QB := hid p1
          have m1 : Hid (¬ ownB (.slice (some ⟨gb, 0, none⟩) CN cb) p) := not_own ap.b ap.self (by simp)
          have k2 : (i : Int) + 1 ≤ 12 := by omega
          clear op ap
          go_wp2_with fail
          refine (insP (X := C) (c := q) (i + 1) (by omega) (OB.out.below (bx _ _)) (heap_alloc_new _ _) (own_alloc_ne' OB.out) (by rw [HCn.out]; omega) (by rw [HCn.out]; omega)).mono ?_
          rintro r7 w7 ⟨v7, rfl, ho7, g7⟩
          have z1 := goes_cell g7 (TE.keep1 (bx _ _) QB.out) m1.out
          have z2 := goes_frz g7 ((bx _ _).frozen (p := ⟨p, 1, none⟩) plt |>.trans f1) (by simp; omega) m1.out
          obtain ⟨C', hC'⟩ : ∃ C', C' = C.take (i + 1) ++ q :: C.drop (i + 1) := ⟨_, rfl⟩
          rw [← hC'] at ho7
          obtain ⟨a7, c7, rfl, -⟩ := ho7.at_
          obtain ⟨o7, hN7⟩ := (N5.out.below (bx _ _)).setP HP5.out (TE.keep1 (bx _ _) QB.out) g7 ho7 rfl
          have N7 := hid hN7
          have HC' := hid hC'
          clear ho7 g7 p1 f1 hN7 hC'
          go_wp2_with fail
          go_end0
          rw [← HX3.out]
          refine ⟨rfl, o7, M5.put p ⟨X3, C'⟩, q, HS1.out, ?_, ?_, by rw [← HC'.out]; exact Sto.put_at _ _ _, ?_, ?_, fun r hr => (Sto.put_ne _ _ (fun e => hr (by rw [e]; simp))).trans (F5.out r hr)⟩
          · simpa using N7.out.mem
          · simpa using N7.out.go
          · exact (Sto.put_ne _ _ (Ne.symm n1)).trans (by rw [← HX4.out]; exact HL5.out)
          · exact (Sto.put_ne _ _ (Ne.symm hpq.out)).trans (by rw [← HRC.out]; exact HQ5.out)
end Go.Proofs.Ytlefcjgemojhpab.PTree
