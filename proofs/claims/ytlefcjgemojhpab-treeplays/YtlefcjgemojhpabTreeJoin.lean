/- tree's join, walked: two neighbours and the key between them become one node. Conditions: how many there are. -/
import Derived.Test.YtlefcjgemojhpabTreeApp
namespace Go.Proofs.Ytlefcjgemojhpab.PTree
open Go Go.RowKit PPool
set_option maxRecDepth 100000
theorem own_none {w : World} {n c : Nat} {a : Option Addr} {X : List En} (h : TE.OwnPg w 0 (.slice a n c) X) : a = none → c = 0 := by
  rintro rfl
  rcases h.2 with ⟨e, _⟩ | ⟨g, cap, cur, hv, _⟩
  · injection e
  · injection hv with e; cases e
theorem own_none' {w : World} {n c : Nat} {a : Option Addr} {X : List TP.Pt} (h : TP.OwnPg w 0 (.slice a n c) X) : a = none → c = 0 := by
  rintro rfl
  rcases h.2 with ⟨e, _⟩ | ⟨g, cap, cur, hv, _⟩
  · injection e
  · injection hv with e; cases e
theorem own_goes {w w' : World} {a b : Nat → Prop} {v : Value} {X : List En} (h : TE.OwnPg w 0 v X) (g : Goes a w w' b) (hn : ∀ q, v.ownBlock = some q → ¬ a q) : TE.OwnPg w' 0 v X := h.keep fun q hq => g.block q (h.lt q hq).2 (hn q hq)
theorem not_own_row {o : Lab} {a b : Option Addr} {n c m d p q i j : Nat} (h1 : ∀ b q s, a = some ⟨b, q, s⟩ → o b = some (p, i)) (h2 : ∀ x q' s, b = some ⟨x, q', s⟩ → o x = some (q, j)) (h : ((q, j) : Nat × Nat) ≠ (p, i)) : ∀ k, (Value.slice b m d).ownBlock = some k → ¬ ownB (.slice a n c) k := fun k hk => by
  cases b with
  | none => cases hk
  | some z =>
    obtain ⟨x, y, s⟩ := z
    have e : x = k := by simpa [Value.ownBlock] using hk
    subst e
    exact not_own h1 (h2 _ _ _ rfl) h
set_option maxHeartbeats 4000000 in
theorem join_any (w : World) (o : Lab) (M : Sto) (hM : Mem w o M) (p l r i : Nat) (X L R : List En) (C lc rc : List Nat) (s : En)
    (hp : M p = some ⟨X, C⟩) (hl : M l = some ⟨L, lc⟩) (hr : M r = some ⟨R, rc⟩) (n1 : p ≠ l) (n3 : l ≠ r)
    (hs : X[i]? = some s) (hC1 : C[i]? = some l) (hC2 : C[i + 1]? = some r) (hX : X.length ≤ 10) (hC : C.length ≤ 11) (hL : L.length ≤ 6) (hR : R.length ≤ 6) (hlc : lc.length ≤ 7) (hrc : rc.length ≤ 7) :
    Calls Try.prog 71 #[.pointer (some ⟨p, 0, none⟩), .int .i64 (i : Int)] w fun e w' => e = .returned (.tuple #[]) ∧ ∃ o' M', Mem w' o' M' ∧ Gos o w w' o' ∧
      M' p = some ⟨X.take i ++ X.drop (i + 1), C.take (i + 1) ++ C.drop (i + 2)⟩ ∧ M' l = some ⟨L ++ s :: R, lc ++ rc⟩ ∧ Off M M' [p, l] := by
  have HM := hid hM
  have HP := hid hp
  have HL := hid hl
  have HR := hid hr
  have HS := hid hs
  obtain ⟨i1, -⟩ := List.getElem?_eq_some_iff.1 hC2
  obtain ⟨i2, -⟩ := List.getElem?_eq_some_iff.1 hs
  obtain ⟨ae, ce, ab, cb, op⟩ := hM.open_ hp
  obtain ⟨gb, go, rfl, d1⟩ := op.kid hC1
  obtain ⟨_, _, e, d2⟩ := op.kid hC2
  cases e
  have c1 := op.at_.c1
  clear hM hp hl hr hs hC1 hC2 op
  simp only at c1
  generalize hCn : C.length = CN at *
  generalize hXn : X.length = XN at *
  have HCn := hid hCn
  have HXn := hid hXn
  clear hCn hXn
  have k0 : (0 : Int) ≤ (i : Int) := by omega
  have k1 : (i : Int) < (CN : Int) := by omega
  have k2 : (i : Int) + 1 < (CN : Int) := by omega
  have k3 : (i : Int) < (XN : Int) := by omega
  go_enter Try.func71, Try.ntmps71
  go_wp2_with fail
  go_quiet (fail)
  have N0 : Hid (Now w o (w.drewN nq) o M) := (⟨HM.out, Gos.refl _ _⟩ : Now w o w o M).below (below_drewN (Below.refl _ _) _)
  generalize w.drewN nq = w1 at *
  clear c1 d1 d2
  obtain ⟨al, cl, bl, kl, opl⟩ := N0.out.mem.open_ HL.out
  obtain ⟨ar, cr, br, kr, opr⟩ := N0.out.mem.open_ HR.out
  obtain ⟨ae, ce, ab, cb, op⟩ := N0.out.mem.open_ HP.out
  obtain ⟨ge, eo, rfl, d1, d2⟩ := op.ent HS.out
  have q2 := opl.at_.c0
  have q2f := opl.at_.f0
  have llt := opl.at_.lt
  have q3 := op.at_.c0
  have q4 := opr.at_.c0
  have apl := N0.out.mem.apart HL.out opl
  have apr := N0.out.mem.apart HR.out opr
  have m1 : Hid (¬ ownB (.slice al L.length cl) l) := not_own apl.e apl.self (by simp)
  have m2 : Hid (¬ ownB (.slice al L.length cl) r) := not_own apl.e apr.self (by simp)
  have m3 : Hid (∀ k, (Value.slice ar R.length cr).ownBlock = some k → ¬ ownB (.slice al L.length cl) k) := not_own_row apl.e apr.e (by simpa using fun e => n3 e.symm)
  have OL := hid opl.e
  have OR := hid opr.e
  simp only at q2 q3 q4 OL OR
  rw [HXn.out] at q3
  clear opl op opr apl apr ab bl br
  obtain ⟨sk, st⟩ := s
  simp only at d1 d2
  have q2a : ∀ o, (w1.alloc o).cell? ⟨l, 0, none⟩ = some (.slice al L.length cl) := fun o => TE.keep1 (bx _ _) q2
  have q3a : ∀ o, (w1.alloc o).cell? ⟨p, 0, none⟩ = some (.slice (some ⟨ge, eo, none⟩) XN ce) := fun o => TE.keep1 (bx _ _) q3
  have q4a : ∀ o, (w1.alloc o).cell? ⟨r, 0, none⟩ = some (.slice ar R.length cr) := fun o => TE.keep1 (bx _ _) q4
  go_upto_region 1 with fail
  go_cut [] from 21 to 41 (fun wx => Hid (∃ o1, Now w o wx o1 (M.put l ⟨L ++ ⟨sk, st⟩ :: R, lc⟩)))
  case first =>
    go_region_law ((first | (refine step_app_E (by rfl) _ _ (by rfl) (.slice al L.length cl) L (by rfl) (OL.out.below (ad _ _)) (some ⟨w1.heap.size, 0, none⟩) 1 1 [(⟨sk, st⟩ : En)] rfl (by rfl) (TE.OneAt.at_ (show (w1.alloc _).heap[w1.heap.size]? = _ from heap_alloc_new w1 _)) (by simp) (by omega) ?_; intro v3 w3 ho3 g3; have z1 := goes_cell g3 (TE.keep1 (ad _ _) q2) m1.out; have z2 := goes_frz g3 ((ad w1 _).frozen (p := ⟨l, 0, none⟩) llt |>.trans q2f) (by simp; omega) m1.out; have z3 := goes_cell g3 (TE.keep1 (ad _ _) q4) m2.out; have OR3 := hid (own_goes (OR.out.below (ad _ _)) g3 m3.out); have HO3 := hid ho3; have G3 := hid g3; have m4 : Hid (¬ ownB v3 l) := (fun e => by rcases g3.grow _ e with e | e; exact m1.out e; simp at e; omega); obtain ⟨a3, c3, rfl, -⟩ := ho3.at_; clear ho3 g3; simp only [List.length_append, List.length_cons, List.length_nil, Nat.zero_add] at HO3 G3 m4) | (refine step_app_E (by rfl) _ _ (by rfl) (.slice a3 (L.length + 1) c3) (L ++ [(⟨sk, st⟩ : En)]) (by rfl) HO3.out ar cr R.length R rfl (by rfl) (TE.own_pg OR3.out) (own_none OR3.out) (by simp; omega) ?_; intro v4 w4 ho4 g4; rw [show L ++ [(⟨sk, st⟩ : En)] ++ R = L ++ ⟨sk, st⟩ :: R by simp] at ho4; have y1 := goes_cell g4 z1 m4.out; have y2 := goes_frz g4 z2 (World.block_lt_of_cell? _ _ z1) m4.out; have HO4 := hid ho4; have G4 := hid (G3.out.trans g4); obtain ⟨a4, c4, rfl, -⟩ := ho4.at_; clear ho4 g4)))
    all_goals (go_wp2_with fail; go_meet; case rel => exact hid ((N0.out.below (ad _ _)).setE HL.out (TE.keep1 (ad _ _) q2) G4.out HO4.out (by simp)))
  case rest =>
    obtain ⟨o1, hN1⟩ := hcut.out
    have N1 := hid hN1
    clear hcut hN1 N0 q2 q2f llt q3 q4 q2a q3a q4a m1 m2 m3 d1 d2 OL OR HS
    obtain ⟨M1, hM1⟩ : ∃ M1, M1 = M.put l ⟨L ++ ⟨sk, st⟩ :: R, lc⟩ := ⟨_, rfl⟩
    rw [← hM1] at N1
    have HP1 : Hid (M1 p = some ⟨X, C⟩) := by rw [hM1]; exact (Sto.put_ne _ _ n1).trans HP.out
    have HL1 : Hid (M1 l = some ⟨L ++ ⟨sk, st⟩ :: R, lc⟩) := by rw [hM1]; exact Sto.put_at _ _ _
    have HR1 : Hid (M1 r = some ⟨R, rc⟩) := by rw [hM1]; exact (Sto.put_ne _ _ (Ne.symm n3)).trans HR.out
    have F1 : Hid (Off M M1 [p, l]) := by rw [hM1]; exact fun q hq => Sto.put_ne _ _ (fun e => hq (by rw [e]; simp))
    clear hM1 HP HL HR HM
    obtain ⟨al, cl, bl, kl, opl⟩ := N1.out.mem.open_ HL1.out
    obtain ⟨ar, cr, br, kr, opr⟩ := N1.out.mem.open_ HR1.out
    have q2 := opl.at_.c1
    have q2f := opl.at_.f1
    have llt := opl.at_.lt
    have q4 := opr.at_.c1
    have apl := N1.out.mem.apart HL1.out opl
    have apr := N1.out.mem.apart HR1.out opr
    have m1 : Hid (¬ ownB (.slice bl lc.length kl) l) := not_own apl.b apl.self (by simp)
    have OL := hid opl.b
    have OR := hid opr.b
    simp only at q2 q4 OL OR
    clear opl opr apl apr al ar
    go_upto_region 2 with fail
    go_cut [] from 42 to 53 (fun wx => Hid (∃ o2, Now w o wx o2 (M1.put l ⟨L ++ ⟨sk, st⟩ :: R, lc ++ rc⟩)))
    case first =>
      go_region_law ((refine step_app_P (by rfl) _ _ (by rfl) (.slice bl lc.length kl) lc (by rfl) (OL.out.below (Below.refl _ _).drew) br kr rc.length rc rfl (by rfl) (TP.own_pg (OR.out.below (Below.refl _ _).drew)) (own_none' OR.out) (by omega) ?_; intro v3 w3 ho3 g3; have z1 := goes_cell g3 (TE.keep1 (Below.refl _ _).drew q2) m1.out; have z2 := goes_frz g3 q2f llt m1.out; have HO3 := hid ho3; have G3 := hid g3; obtain ⟨a3, c3, rfl, -⟩ := ho3.at_; clear ho3 g3))
      all_goals (go_wp2_with fail; go_meet; case rel => exact hid ((N1.out.below (Below.refl _ _).drew).setP HL1.out (TE.keep1 (Below.refl _ _).drew q2) G3.out HO3.out (by simp)))
    case rest =>
      obtain ⟨o2, hN2⟩ := hcut.out
      have N2 := hid hN2
      clear hcut hN2 N1 q2 q2f llt q4 m1 OL OR
      obtain ⟨M2, hM2⟩ : ∃ M2, M2 = M1.put l ⟨L ++ ⟨sk, st⟩ :: R, lc ++ rc⟩ := ⟨_, rfl⟩
      rw [← hM2] at N2
      have HP2 : Hid (M2 p = some ⟨X, C⟩) := by rw [hM2]; exact (Sto.put_ne _ _ n1).trans HP1.out
      have HL2 : Hid (M2 l = some ⟨L ++ ⟨sk, st⟩ :: R, lc ++ rc⟩) := by rw [hM2]; exact Sto.put_at _ _ _
      have F2 : Hid (Off M M2 [p, l]) := by rw [hM2]; exact fun q hq => (Sto.put_ne _ _ (fun e => hq (by rw [e]; simp))).trans (F1.out q hq)
      clear hM2 HP1 HL1 HR1 F1
      obtain ⟨ae, ce, ab, cb, op⟩ := N2.out.mem.open_ HP2.out
      obtain ⟨ge, ce', e, hge⟩ := op.e.some (by show 0 < X.length; rw [HXn.out]; omega)
      injection e with e1 _ e3
      subst e1; subst e3
      have q1 := op.at_.c0
      have f1 := op.at_.f0
      have plt := op.at_.lt
      have ap := N2.out.mem.apart HP2.out op
      have OE := hid op.e
      simp only at q1 OE
      rw [HXn.out] at q1 OE
      have QE := hid q1
      have m1 : Hid (¬ ownB (.slice (some ⟨ge, 0, none⟩) XN ce) p) := not_own ap.e ap.self (by simp)
      clear op ap hge
      go_wp2_with fail
      refine (delE (X := X) i (i + 1) rfl (by omega) HXn.out OE.out (by omega) (by omega) (by omega)).mono ?_
      rintro r5 w5 ⟨v5, rfl, ho5, g5⟩
      have z1 := goes_cell g5 QE.out m1.out
      have z2 := goes_frz g5 f1 plt m1.out
      obtain ⟨X', hX'⟩ : ∃ X', X' = X.take i ++ X.drop (i + 1) := ⟨_, rfl⟩
      rw [← hX'] at ho5
      obtain ⟨a5, c5, rfl, -⟩ := ho5.at_
      obtain ⟨o3, hN3⟩ := N2.out.setE HP2.out QE.out g5 ho5 rfl
      have N3 := hid hN3
      have HX' := hid hX'
      clear ho5 g5 q1 f1 hN3 hX'
      go_upto_region 4 with fail
      generalize w5.setCell ⟨p, 0, none⟩ (.slice a5 X'.length c5) = w6 at *
      obtain ⟨M3, hM3⟩ : ∃ M3, M3 = M2.put p ⟨X', C⟩ := ⟨_, rfl⟩
      rw [← hM3] at N3
      have HP3 : Hid (M3 p = some ⟨X', C⟩) := by rw [hM3]; exact Sto.put_at _ _ _
      have HL3 : Hid (M3 l = some ⟨L ++ ⟨sk, st⟩ :: R, lc ++ rc⟩) := by rw [hM3]; exact (Sto.put_ne _ _ (Ne.symm n1)).trans HL2.out
      have F3 : Hid (Off M M3 [p, l]) := by rw [hM3]; exact fun q hq => (Sto.put_ne _ _ (fun e => hq (by rw [e]; simp))).trans (F2.out q hq)
      clear hM3 HP2 HL2 F2 N2 z1 z2 m1 QE OE plt
      obtain ⟨ae, ce, ab, cb, op⟩ := N3.out.mem.open_ HP3.out
      obtain ⟨gb, cb', e, -⟩ := TP.OwnPg.some op.b (by show 0 < (C.map pt).length; rw [List.length_map, HCn.out]; omega)
      injection e with e1 _ e3
      subst e1; subst e3
      have q1 := op.at_.c1
      have f1 := op.at_.f1
      have plt := op.at_.lt
      have ap := N3.out.mem.apart HP3.out op
      have OB := hid op.b
      simp only at q1 OB
      rw [HCn.out] at q1 OB
      have QB := hid q1
      have m1 : Hid (¬ ownB (.slice (some ⟨gb, 0, none⟩) CN cb) p) := not_own ap.b ap.self (by simp)
      clear op ap
      go_wp2_with fail
      refine (delP (X := C) (i + 1) (i + 2) (by omega) (by omega) HCn.out OB.out (by omega) (by omega) (by omega)).mono ?_
      rintro r7 w7 ⟨v7, rfl, ho7, g7⟩
      have z1 := goes_cell g7 QB.out m1.out
      have z2 := goes_frz g7 f1 plt m1.out
      obtain ⟨C', hC'⟩ : ∃ C', C' = C.take (i + 1) ++ C.drop (i + 2) := ⟨_, rfl⟩
      rw [← hC'] at ho7
      obtain ⟨a7, c7, rfl, -⟩ := ho7.at_
      obtain ⟨o5, hN5⟩ := N3.out.setP HP3.out QB.out g7 ho7 rfl
      have N5 := hid hN5
      have HC' := hid hC'
      clear ho7 g7 q1 f1 hN5 hC'
      go_wp2_with fail
      go_end0
      rw [← HX'.out, ← HC'.out]
      refine ⟨rfl, o5, M3.put p ⟨X', C'⟩, ?_, ?_, Sto.put_at _ _ _, (Sto.put_ne _ _ (Ne.symm n1)).trans HL3.out, fun q hq => (Sto.put_ne _ _ (fun e => hq (by rw [e]; simp))).trans (F3.out q hq)⟩
      · simpa using N5.out.mem
      · simpa using N5.out.go
end Go.Proofs.Ytlefcjgemojhpab.PTree
