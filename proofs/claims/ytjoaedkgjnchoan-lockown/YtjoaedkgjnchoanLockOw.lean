/- quirkeep.LockOwn, walked: it answers true, and nothing that was there has turned. Conditions: the table lies where its slice says; how many items and locks there are. -/
import Derived.Test.YtjoaedkgjnchoanLockOwM
import Derived.Test.YtjoaedkgjnchoanLockRSm
import Derived.Test.YtjoaedkgjnchoanLockWts
namespace Go.Proofs.Ytjoaedkgjnchoan.PLock
open Go Go.RowKit PPool PGraph
set_option maxRecDepth 100000

theorem ask_one : askE [] 1 2 3 = 0 ∧ askO [] 1 2 3 = true ∧ (askV [] 1 2 3).length = 1 := by decide
theorem fz2 {w : World} {base g n c : Nat} {P : List Rw} (h : OwnIt w base (.slice (some ⟨g, 0, none⟩) n c) P) (i j : Nat) (v : Value) : (w.setCell ⟨g, i, none⟩ v).frozen? ⟨g, j, none⟩ = false := by
  rcases h.2 with ⟨e, _⟩ | ⟨g', cap, cur, hv, hg, hh, r⟩
  · cases e
  · injection hv with e1 e2 e3
    have eg : g = g' := by injection e1 with e1; injection e1
    subst eg
    rw [setCell_eq_setRow w g i cur _ _ v hh]
    simp [World.frozen?, setRow_heap w g cur _ _ _ hh]
theorem cell2 {w : World} {base g n c : Nat} {P : List Rw} (h : OwnIt w base (.slice (some ⟨g, 0, none⟩) n c) P) {i j : Nat} {u : Value} (hu : w.cell? ⟨g, j, none⟩ = some u) (hne : i ≠ j) (v : Value) : (w.setCell ⟨g, i, none⟩ v).cell? ⟨g, j, none⟩ = some u := by
  rcases h.2 with ⟨e, _⟩ | ⟨g', cap, cur, hv, hg, hh, r⟩
  · cases e
  · injection hv with e1 e2 e3
    have eg : g = g' := by injection e1 with e1; injection e1
    subst eg
    rw [setCell_eq_setRow w g i cur _ _ v hh, cell_of_row _ _ _ _ _ _ (setRow_heap w g cur _ _ _ hh), Array.getElem?_setIfInBounds, if_neg hne]
    rw [cell_of_row w g _ cur _ _ hh] at hu
    exact hu

set_option maxHeartbeats 8000000 in
theorem own_walk (w : World) (a : Option Addr) (c : Nat) (T : List Lk.It) (t i m : Int) (h : TbAt w a T) (hl : T.length * 56 ≤ 140737488351232) (hs : ∀ x ∈ T, x.h.length * 16 ≤ 140737488351232 ∧ x.q.length * 16 ≤ 140737488351232) :
    Calls Try.prog 5 #[.slice a T.length c, .int .i64 t, .int .i64 i, .int .i64 m] w fun e w' => e = .returned (.bool true) ∧ Below w.heap.size w w' := by
  have H := hid h
  have HSz := hid hs
  obtain ⟨P0, hP0, hRw, hM⟩ := h.raw
  have K1 := hid (ask2_any w none 0 [] 1 2 3 (TbAt.nil _ _) (by decide))
  obtain ⟨f1, f2, f3⟩ := ask_one
  rw [f1, f2] at K1
  have F3 := hid f3
  have KCl := hid fun W (hW : Below w.heap.size w W) => cloneI_any W a c P0 (hRw.below hW) (by rw [hP0]; omega)
  rw [hP0] at KCl
  have KA := hid fun W a c T t i m h hl => ask2_any W a c T t i m h hl
  have KD := hid fun W a c T t h hl => drop_any W a c T t h hl
  have KW := hid fun W a c T h hl => waits_any W a c T h hl
  have KS := hid fun W a1 a2 c1 c2 l1 l2 h1 h2 hl => rsame_any W a1 a2 c1 c2 l1 l2 h1 h2 hl
  have HM := hid hM
  have HP0 := hid hP0
  have ln : (T.length : Int) ≤ 2513169434917 := by omega
  have ln2 : T.length ≤ 9223372036854775807 := by omega
  clear h hs f1 f2 f3 hM hRw hP0
  go_enter Try.func5, Try.ntmps5
  go_wp2_with fail
  refine K1.out.mono ?_
  rintro r w1 ⟨v1, rfl, t1, b1⟩
  obtain ⟨a1, c1, e1, _⟩ := t1.at_
  rw [F3.out] at e1
  subst e1
  have B1 := hid b1
  clear t1 b1 K1 F3
  obtain ⟨wf, hwf⟩ : ∃ wf, wf = w1.alloc (.cells #[.int .i64 77, .int .i64 0] 62) := ⟨_, rfl⟩
  obtain ⟨fb, hfb⟩ : ∃ fb, fb = w1.heap.size := ⟨_, rfl⟩
  have FB : Hid (∀ W, Below wf.heap.size wf W → W.cell? ⟨fb, 0, none⟩ = some (.int .i64 77) ∧ W.cell? ⟨fb, 1, none⟩ = some (.int .i64 0)) := fun W hW => by rw [hwf] at hW; rw [hfb]; exact box2 hW
  have BF : Hid (Below w.heap.size w wf) := by show Below _ _ _; rw [hwf]; exact below_tr B1.out (bx _ _)
  have HWF := hid hwf
  have HFB := hid hfb
  clear hwf hfb B1
  go_wp2_with fail
  rw [← HWF.out, ← HFB.out]
  clear HWF HFB
  refine (KCl.out _ BF.out).mono ?_
  rintro r w2 ⟨v2, rfl, o2, b2⟩
  have IN0 : Hid (InAt w w2 wf.heap.size v2 T P0 0) := ⟨o2, HP0.out, fun j x y hx hy => (HM.out j x y hx hy).1, fun j x y hj => by omega, fun j x y _ hx hy => (HM.out j x y hx hy).2⟩
  have B2 := hid b2
  obtain ⟨a2, c2, e2, _⟩ := o2.at_
  rw [HP0.out] at e2
  subst e2
  clear o2 b2 KCl HP0 HM
  go_wp2_with fail
  go_loopw [46] (fun ix wr => ∃ (k : Nat) (P : List Rw), k ≤ T.length ∧ ix = .int .i64 (k : Int) ∧ Hid (InAt w wr wf.heap.size (.slice a2 T.length c2) T P k) ∧ Hid (Below wf.heap.size wf wr)) (fun ix _ => T.length - (intOf ix).toNat)
  case atStart => exact ⟨0, P0, Nat.zero_le _, rfl, IN0, B2⟩
  case round =>
    clear IN0 B2
    obtain ⟨k, P, hk, rfl, hN, hb⟩ := hrel
    by_cases hlt : k < T.length
    · obtain ⟨x, hx⟩ : ∃ x, T[k]? = some x := ⟨_, List.getElem?_eq_getElem hlt⟩
      obtain ⟨z, hz⟩ : ∃ z, P[k]? = some z := ⟨_, List.getElem?_eq_getElem (by rw [hN.out.len]; exact hlt)⟩
      obtain ⟨g, c9, e9, _⟩ := hN.out.row.some (by rw [hN.out.len]; omega)
      injection e9 with e9 e9b e9c
      subst e9
      clear e9b e9c
      obtain ⟨t1, t2⟩ := hN.out.todo k z x (Nat.le_refl _) hz hx
      obtain ⟨s1, s2⟩ := HSz.out x (List.mem_of_getElem? hx)
      have HL := hid s1
      have QL := hid s2
      obtain ⟨zi, ha, hn, hc, qa, qn, qc⟩ := z
      obtain ⟨a3, c3, e3, p3, _, _, HZ⟩ := t1
      obtain ⟨a4, c4, e4, p4, _, _, QZ⟩ := t2
      injection e3 with e3a e3b e3c
      injection e4 with e4a e4b e4c
      subst e3a; subst e3b; subst e3c; subst e4a; subst e4b; subst e4c
      have LH := hid p3
      have LQ := hid p4
      have HX := hid hz
      have HY := hid hx
      have BW := hid (below_tr BF.out hb.out)
      have GE : Hid (wf.heap.size ≤ g) := (hN.out.row.lt g rfl).1
      have k0 : (0 : Int) ≤ (k : Int) := by omega
      have k1 : (k : Int) < (T.length : Int) := by omega
      clear hx hz p3 p4 s1 s2
      go_upto_region 9 with fail
      have BD : Below wr.heap.size wr wr.drew := (Below.refl _ _).drew
      refine wp_region_held_drew (S := fun W => W.cell? ⟨fb, 0, none⟩ = some (.int .i64 77) ∧ W.cell? ⟨fb, 1, none⟩ = some (.int .i64 0)) (by kernel_rfl) (FB.out _ (below_tr hb.out BD)) (fun hHeld => ?_)
      refine wpAnyH_take (i := 0) (v := ?tv1) rfl (by kernel_rfl) (by kernel_rfl) (by kernel_rfl) (fun _ _ _ h => h) (Or.inl ⟨by rfl, ?th1⟩) (by assumption) ?tr1
      case th1 => (intro w hSw; (try dsimp only at hSw); go_simp; all_goals (with_reducible rfl))
      simp only [Act.put, List.getElem_toArray, List.getElem_cons_zero, List.setIfInBounds_toArray, List.set_cons_zero, List.set_cons_succ]
      refine wpAnyH_take (i := 1) (v := ?tv2) rfl (by kernel_rfl) (by kernel_rfl) (by kernel_rfl) (fun _ _ _ h => h) (Or.inl ⟨by rfl, ?th2⟩) (by assumption) ?tr2
      case th2 => (intro w hSw; (try dsimp only at hSw); go_simp; all_goals (with_reducible rfl))
      simp only [Act.put, List.getElem_toArray, List.getElem_cons_zero, List.getElem_cons_succ, List.setIfInBounds_toArray, List.set_cons_zero, List.set_cons_succ]
      refine wpAnyH_take (i := 2) (v := ?tv3) rfl (by kernel_rfl) (by kernel_rfl) (by kernel_rfl) (fun _ _ _ h => h) (Or.inl ⟨by rfl, ?th3⟩) (by assumption) ?tr3
      case th3 => (intro w hSw; (try dsimp only at hSw); go_simp; all_goals (with_reducible rfl))
      simp only [Act.put, List.getElem_toArray, List.getElem_cons_zero, List.getElem_cons_succ, List.setIfInBounds_toArray, List.set_cons_zero, List.set_cons_succ]
      refine wpAnyH_take (i := 3) (v := ?tv4) rfl (by kernel_rfl) (by kernel_rfl) (by kernel_rfl) (fun _ _ _ h => h) (Or.inl ⟨by rfl, ?th4⟩) (by assumption) ?tr4
      case th4 => (intro w hSw; (try dsimp only at hSw); go_simp; all_goals (with_reducible rfl))
      simp only [Act.put, List.getElem_toArray, List.getElem_cons_zero, List.getElem_cons_succ, List.setIfInBounds_toArray, List.set_cons_zero, List.set_cons_succ]
      refine wpAnyH_take (i := 4) (v := ?tv5) rfl (by kernel_rfl) (by kernel_rfl) (by kernel_rfl) (fun _ _ _ h => h) (Or.inl ⟨by rfl, ?th5⟩) (by assumption) ?tr5
      case th5 => (intro w hSw; (try dsimp only at hSw); go_simp; all_goals (with_reducible rfl))
      simp only [Act.put, List.getElem_toArray, List.getElem_cons_zero, List.getElem_cons_succ, List.setIfInBounds_toArray, List.set_cons_zero, List.set_cons_succ]
      refine wpAnyH_take (i := 5) (v := ?tv6) rfl (by kernel_rfl) (by kernel_rfl) (by kernel_rfl) (fun _ _ _ h => h) (Or.inl ⟨by rfl, ?th6⟩) (by assumption) ?tr6
      case th6 => (intro w hSw; (try dsimp only at hSw); go_simp; all_goals (with_reducible rfl))
      simp only [Act.put, List.getElem_toArray, List.getElem_cons_zero, List.getElem_cons_succ, List.setIfInBounds_toArray, List.set_cons_zero, List.set_cons_succ]
      refine wpAnyH_take (i := 6) (v := ?tv7) rfl (by kernel_rfl) (by kernel_rfl) (by kernel_rfl) (fun _ _ _ h => h) (Or.inl ⟨by rfl, ?th7⟩) (by assumption) ?tr7
      case th7 => (intro w hSw; (try dsimp only at hSw); go_simp; all_goals (with_reducible rfl))
      simp only [Act.put, List.getElem_toArray, List.getElem_cons_zero, List.getElem_cons_succ, List.setIfInBounds_toArray, List.set_cons_zero, List.set_cons_succ]
      refine wpAnyH_take (i := 7) (v := ?tv8) rfl (by kernel_rfl) (by kernel_rfl) (by kernel_rfl) (fun _ _ _ h => h) (Or.inl ⟨by rfl, ?th8⟩) (by assumption) ?tr8
      case th8 => (intro w hSw; (try dsimp only at hSw); go_simp; all_goals (with_reducible rfl))
      simp only [Act.put, List.getElem_toArray, List.getElem_cons_zero, List.getElem_cons_succ, List.setIfInBounds_toArray, List.set_cons_zero, List.set_cons_succ]
      refine wpAnyH_take (i := 9) (v := ?tv9) rfl (by kernel_rfl) (by kernel_rfl) (by kernel_rfl) (fun _ _ _ h => h) (Or.inl ⟨by rfl, ?th9⟩) (by assumption) ?tr9
      case th9 => (intro w hSw; (try dsimp only at hSw); go_simp; all_goals (with_reducible rfl))
      simp only [Act.put, List.getElem_toArray, List.getElem_cons_zero, List.getElem_cons_succ, List.setIfInBounds_toArray, List.set_cons_zero, List.set_cons_succ]
      refine wpAnyH_take (i := 11) (v := ?tv10) rfl (by kernel_rfl) (by kernel_rfl) (by kernel_rfl) (fun _ _ _ h => h) (Or.inl ⟨by rfl, ?th10⟩) (by assumption) ?tr10
      case th10 => (intro w hSw; (try dsimp only at hSw); go_simp; all_goals (with_reducible rfl))
      simp only [Act.put, List.getElem_toArray, List.getElem_cons_zero, List.getElem_cons_succ, List.setIfInBounds_toArray, List.set_cons_zero, List.set_cons_succ]
      refine wpAnyH_take (i := 12) (v := ?tv11) rfl (by kernel_rfl) (by kernel_rfl) (by kernel_rfl) (fun _ _ _ h => h) (Or.inl ⟨by rfl, ?th11⟩) (by assumption) ?tr11
      case th11 => (intro w hSw; (try dsimp only at hSw); go_simp; all_goals (with_reducible rfl))
      simp only [Act.put, List.getElem_toArray, List.getElem_cons_zero, List.getElem_cons_succ, List.setIfInBounds_toArray, List.set_cons_zero, List.set_cons_succ]
      refine wpAnyH_take (i := 13) (v := ?tv12) rfl (by kernel_rfl) (by kernel_rfl) (by kernel_rfl) (fun _ _ _ h => h) (Or.inl ⟨by rfl, ?th12⟩) (by assumption) ?tr12
      case th12 => (intro w hSw; (try dsimp only at hSw); go_simp; all_goals (with_reducible rfl))
      simp only [Act.put, List.getElem_toArray, List.getElem_cons_zero, List.getElem_cons_succ, List.setIfInBounds_toArray, List.set_cons_zero, List.set_cons_succ]
      refine wpAnyH_take (i := 14) (v := ?tv13) rfl (by kernel_rfl) (by kernel_rfl) (by kernel_rfl) (fun _ _ _ h => h) (Or.inl ⟨by rfl, ?th13⟩) (by assumption) ?tr13
      case th13 => (intro w hSw; (try dsimp only at hSw); go_simp; all_goals (with_reducible rfl))
      simp only [Act.put, List.getElem_toArray, List.getElem_cons_zero, List.getElem_cons_succ, List.setIfInBounds_toArray, List.set_cons_zero, List.set_cons_succ]
      refine wpAnyH_take (i := 16) (v := ?tv14) rfl (by kernel_rfl) (by kernel_rfl) (by kernel_rfl) (fun _ _ _ h => h) (Or.inl ⟨by rfl, ?th14⟩) (by assumption) ?tr14
      case th14 => (intro w hSw; (try dsimp only at hSw); go_simp; all_goals (with_reducible rfl))
      simp only [Act.put, List.getElem_toArray, List.getElem_cons_zero, List.getElem_cons_succ, List.setIfInBounds_toArray, List.set_cons_zero, List.set_cons_succ]
      refine wpAnyH_ready (rs := [8, 15]) (by kernel_rfl) (by simp) ?_
      refine AllReadyH.cons rfl (fun K hK => ?_) (AllReadyH.cons rfl (fun K hK => ?_) AllReadyH.nil)
      · skip
        obtain ⟨f0, f1, f2⟩ := (hN.out.below BD).row.cells HX.out
        obtain ⟨f3, f4⟩ := FB.out _ (below_tr hb.out BD)
        go_simp
        refine hK.out _ _ ⟨f3, f4⟩ (fun hHeld => ?_)
        clear hK K f0 f1 f2 f3 f4
        try simp only [Act.put, List.getElem_toArray, List.getElem_cons_zero, List.getElem_cons_succ, List.setIfInBounds_toArray, List.set_cons_zero, List.set_cons_succ]
        refine wpAnyH_ready (rs := [10, 15]) (by kernel_rfl) (by simp) ?_
        refine AllReadyH.cons rfl (fun K hK => ?_) (AllReadyH.cons rfl (fun K hK => ?_) AllReadyH.nil)
        · skip
          obtain ⟨f0, f1, f2⟩ := (hN.out.below BD).row.cells HX.out
          obtain ⟨f3, f4⟩ := FB.out _ (below_tr hb.out BD)
          go_simp
          refine (ample_any wr.drew ha hc x.h 77 0 (LH.out.below (below_tr BW.out BD)) HZ HL.out).mono ?_
          rintro r u2 ⟨g2, c2, rfl, o2, h2⟩
          have b2 := below_tr BD h2
          have m2 : AmAt u2 wf.heap.size (.slice (some ⟨g2, 0, none⟩) x.h.length c2) x.h := ⟨g2, c2, rfl, o2.lower (Nat.le_trans hb.out.size BD.size)⟩
          clear o2 f0 f1 f2 f3 f4
          obtain ⟨f0, f1, f2⟩ := (hN.out.below b2).row.cells HX.out
          obtain ⟨f3, f4⟩ := FB.out _ (below_tr hb.out b2)
          refine hK.out _ _ ⟨f3, f4⟩ (fun hHeld => ?_)
          clear hK K f0 f1 f2 f3 f4
          try simp only [Act.put, List.getElem_toArray, List.getElem_cons_zero, List.getElem_cons_succ, List.setIfInBounds_toArray, List.set_cons_zero, List.set_cons_succ]
          refine wpAnyH_ready (rs := [15]) (by kernel_rfl) (by simp) ?_
          refine AllReadyH.cons rfl (fun K hK => ?_) AllReadyH.nil
          obtain ⟨f0, f1, f2⟩ := (hN.out.below b2).row.cells HX.out
          obtain ⟨f3, f4⟩ := FB.out _ (below_tr hb.out b2)
          go_simp
          refine hK.out _ _ ⟨f3, f4⟩ (fun hHeld => ?_)
          clear hK K f0 f1 f2 f3 f4
          try simp only [Act.put, List.getElem_toArray, List.getElem_cons_zero, List.getElem_cons_succ, List.setIfInBounds_toArray, List.set_cons_zero, List.set_cons_succ]
          refine wpAnyH_ready (rs := [17]) (by kernel_rfl) (by simp) ?_
          refine AllReadyH.cons rfl (fun K hK => ?_) AllReadyH.nil
          obtain ⟨f0, f1, f2⟩ := (hN.out.below b2).row.cells HX.out
          obtain ⟨f3, f4⟩ := FB.out _ (below_tr hb.out b2)
          go_simp
          refine (ample_any u2 qa qc x.q 77 0 (LQ.out.below (below_tr BW.out b2)) QZ QL.out).mono ?_
          rintro r u4 ⟨g4, c4, rfl, o4, h4⟩
          have b4 := below_tr b2 h4
          have m4 : AmAt u4 wf.heap.size (.slice (some ⟨g4, 0, none⟩) x.q.length c4) x.q := ⟨g4, c4, rfl, o4.lower (Nat.le_trans hb.out.size b2.size)⟩
          clear o4 f0 f1 f2 f3 f4
          have mh := AmAt.below m2 h4
          obtain ⟨f0, f1, f2⟩ := (hN.out.below b4).row.cells HX.out
          obtain ⟨f3, f4⟩ := FB.out _ (below_tr hb.out b4)
          refine hK.out _ _ ⟨f3, f4⟩ (fun hHeld => ?_)
          clear hK K f0 f1 f2 f3 f4
          try simp only [Act.put, List.getElem_toArray, List.getElem_cons_zero, List.getElem_cons_succ, List.setIfInBounds_toArray, List.set_cons_zero, List.set_cons_succ]
          have F := (hN.out.below b4).put HX.out HY.out mh m4
          have C0 := below_tr hb.out b4
          have C1 := C0.setCell (p := ⟨g, k * 3 + 1, none⟩) GE.out (.slice (some ⟨g2, 0, none⟩) x.h.length c2)
          have C2 := C1.setCell (p := ⟨g, k * 3 + 2, none⟩) GE.out (.slice (some ⟨g4, 0, none⟩) x.q.length c4)
          obtain ⟨f0, f1, f2⟩ := (hN.out.below b4).row.cells HX.out
          obtain ⟨f3, f4⟩ := FB.out _ (below_tr hb.out b4)
          have z1 := (hN.out.below b4).row.fz (k * 3 + 1)
          have z2 : (u4.setCell ⟨g, k * 3 + 1, none⟩ (.slice (some ⟨g2, 0, none⟩) x.h.length c2)).frozen? ⟨g, k * 3 + 2, none⟩ = false := fz2 (hN.out.below b4).row _ _ _
          have z3 : (u4.setCell ⟨g, k * 3 + 1, none⟩ (.slice (some ⟨g2, 0, none⟩) x.h.length c2)).cell? ⟨g, k * 3 + 2, none⟩ = some (.slice qa x.q.length qc) := cell2 (hN.out.below b4).row f2 (by omega) _
          refine wpAnyH_take (i := 18) (v := ?tv15) rfl (by kernel_rfl) (by kernel_rfl) (by kernel_rfl) (fun _ _ _ h => h) (Or.inl ⟨by rfl, ?th15⟩) (by assumption) ?tr15
          case th15 => (intro w hSw; (try dsimp only at hSw); go_simp; all_goals (with_reducible rfl))
          simp only [Act.put, List.getElem_toArray, List.getElem_cons_zero, List.getElem_cons_succ, List.setIfInBounds_toArray, List.set_cons_zero, List.set_cons_succ]
          refine wpAnyH_take (i := 19) (v := ?tv16) rfl (by kernel_rfl) (by kernel_rfl) (by kernel_rfl) (fun _ _ _ h => h) (Or.inl ⟨by rfl, ?th16⟩) (by assumption) ?tr16
          case th16 => (intro w hSw; (try dsimp only at hSw); go_simp; all_goals (with_reducible rfl))
          simp only [Act.put, List.getElem_toArray, List.getElem_cons_zero, List.getElem_cons_succ, List.setIfInBounds_toArray, List.set_cons_zero, List.set_cons_succ]
          refine wpAnyH_ready (rs := [20]) (by kernel_rfl) (by simp) ?_
          refine AllReadyH.cons rfl (fun K hK => ?_) AllReadyH.nil
          go_simp
          refine hK.out _ _ (FB.out _ C1) (fun hHeld => ?_)
          clear hK K
          try simp only [Act.put, List.getElem_toArray, List.getElem_cons_zero, List.getElem_cons_succ, List.setIfInBounds_toArray, List.set_cons_zero, List.set_cons_succ]
          refine wpAnyH_take (i := 21) (v := ?tv17) rfl (by kernel_rfl) (by kernel_rfl) (by kernel_rfl) (fun _ _ _ h => h) (Or.inl ⟨by rfl, ?th17⟩) (by assumption) ?tr17
          case th17 => (intro w hSw; (try dsimp only at hSw); go_simp; all_goals (with_reducible rfl))
          simp only [Act.put, List.getElem_toArray, List.getElem_cons_zero, List.getElem_cons_succ, List.setIfInBounds_toArray, List.set_cons_zero, List.set_cons_succ]
          refine wpAnyH_take (i := 22) (v := ?tv18) rfl (by kernel_rfl) (by kernel_rfl) (by kernel_rfl) (fun _ _ _ h => h) (Or.inl ⟨by rfl, ?th18⟩) (by assumption) ?tr18
          case th18 => (intro w hSw; (try dsimp only at hSw); go_simp; all_goals (with_reducible rfl))
          simp only [Act.put, List.getElem_toArray, List.getElem_cons_zero, List.getElem_cons_succ, List.setIfInBounds_toArray, List.set_cons_zero, List.set_cons_succ]
          refine wpAnyH_ready (rs := [23]) (by kernel_rfl) (by simp) ?_
          refine AllReadyH.cons rfl (fun K hK => ?_) AllReadyH.nil
          go_simp
          refine hK.out _ _ (FB.out _ C2) (fun hHeld => ?_)
          clear hK K
          try simp only [Act.put, List.getElem_toArray, List.getElem_cons_zero, List.getElem_cons_succ, List.setIfInBounds_toArray, List.set_cons_zero, List.set_cons_succ]
          refine wpAnyH_done (by kernel_rfl) ?_ _
          have F := hid F
          have C2 := hid C2
          clear f0 f1 f2 f3 f4 z1 z2 z3 C0 C1
          go_wp2_with fail
          go_roundw
          case rel => exact ⟨k + 1, _, by omega, by go_num, F, C2⟩
          case measure => simp [intOf]; omega
        · skip
          obtain ⟨f0, f1, f2⟩ := (hN.out.below BD).row.cells HX.out
          obtain ⟨f3, f4⟩ := FB.out _ (below_tr hb.out BD)
          go_simp
          refine hK.out _ _ ⟨f3, f4⟩ (fun hHeld => ?_)
          clear hK K f0 f1 f2 f3 f4
          try simp only [Act.put, List.getElem_toArray, List.getElem_cons_zero, List.getElem_cons_succ, List.setIfInBounds_toArray, List.set_cons_zero, List.set_cons_succ]
          refine wpAnyH_ready (rs := [10]) (by kernel_rfl) (by simp) ?_
          refine AllReadyH.cons rfl (fun K hK => ?_) AllReadyH.nil
          obtain ⟨f0, f1, f2⟩ := (hN.out.below BD).row.cells HX.out
          obtain ⟨f3, f4⟩ := FB.out _ (below_tr hb.out BD)
          go_simp
          refine (ample_any wr.drew ha hc x.h 77 0 (LH.out.below (below_tr BW.out BD)) HZ HL.out).mono ?_
          rintro r u6 ⟨g6, c6, rfl, o6, h6⟩
          have b6 := below_tr BD h6
          have m6 : AmAt u6 wf.heap.size (.slice (some ⟨g6, 0, none⟩) x.h.length c6) x.h := ⟨g6, c6, rfl, o6.lower (Nat.le_trans hb.out.size BD.size)⟩
          clear o6 f0 f1 f2 f3 f4
          obtain ⟨f0, f1, f2⟩ := (hN.out.below b6).row.cells HX.out
          obtain ⟨f3, f4⟩ := FB.out _ (below_tr hb.out b6)
          refine hK.out _ _ ⟨f3, f4⟩ (fun hHeld => ?_)
          clear hK K f0 f1 f2 f3 f4
          try simp only [Act.put, List.getElem_toArray, List.getElem_cons_zero, List.getElem_cons_succ, List.setIfInBounds_toArray, List.set_cons_zero, List.set_cons_succ]
          refine wpAnyH_ready (rs := [17]) (by kernel_rfl) (by simp) ?_
          refine AllReadyH.cons rfl (fun K hK => ?_) AllReadyH.nil
          obtain ⟨f0, f1, f2⟩ := (hN.out.below b6).row.cells HX.out
          obtain ⟨f3, f4⟩ := FB.out _ (below_tr hb.out b6)
          go_simp
          refine (ample_any u6 qa qc x.q 77 0 (LQ.out.below (below_tr BW.out b6)) QZ QL.out).mono ?_
          rintro r u7 ⟨g7, c7, rfl, o7, h7⟩
          have b7 := below_tr b6 h7
          have m7 : AmAt u7 wf.heap.size (.slice (some ⟨g7, 0, none⟩) x.q.length c7) x.q := ⟨g7, c7, rfl, o7.lower (Nat.le_trans hb.out.size b6.size)⟩
          clear o7 f0 f1 f2 f3 f4
          have mh := AmAt.below m6 h7
          obtain ⟨f0, f1, f2⟩ := (hN.out.below b7).row.cells HX.out
          obtain ⟨f3, f4⟩ := FB.out _ (below_tr hb.out b7)
          refine hK.out _ _ ⟨f3, f4⟩ (fun hHeld => ?_)
          clear hK K f0 f1 f2 f3 f4
          try simp only [Act.put, List.getElem_toArray, List.getElem_cons_zero, List.getElem_cons_succ, List.setIfInBounds_toArray, List.set_cons_zero, List.set_cons_succ]
          have F := (hN.out.below b7).put HX.out HY.out mh m7
          have C0 := below_tr hb.out b7
          have C1 := C0.setCell (p := ⟨g, k * 3 + 1, none⟩) GE.out (.slice (some ⟨g6, 0, none⟩) x.h.length c6)
          have C2 := C1.setCell (p := ⟨g, k * 3 + 2, none⟩) GE.out (.slice (some ⟨g7, 0, none⟩) x.q.length c7)
          obtain ⟨f0, f1, f2⟩ := (hN.out.below b7).row.cells HX.out
          obtain ⟨f3, f4⟩ := FB.out _ (below_tr hb.out b7)
          have z1 := (hN.out.below b7).row.fz (k * 3 + 1)
          have z2 : (u7.setCell ⟨g, k * 3 + 1, none⟩ (.slice (some ⟨g6, 0, none⟩) x.h.length c6)).frozen? ⟨g, k * 3 + 2, none⟩ = false := fz2 (hN.out.below b7).row _ _ _
          have z3 : (u7.setCell ⟨g, k * 3 + 1, none⟩ (.slice (some ⟨g6, 0, none⟩) x.h.length c6)).cell? ⟨g, k * 3 + 2, none⟩ = some (.slice qa x.q.length qc) := cell2 (hN.out.below b7).row f2 (by omega) _
          refine wpAnyH_take (i := 18) (v := ?tv19) rfl (by kernel_rfl) (by kernel_rfl) (by kernel_rfl) (fun _ _ _ h => h) (Or.inl ⟨by rfl, ?th19⟩) (by assumption) ?tr19
          case th19 => (intro w hSw; (try dsimp only at hSw); go_simp; all_goals (with_reducible rfl))
          simp only [Act.put, List.getElem_toArray, List.getElem_cons_zero, List.getElem_cons_succ, List.setIfInBounds_toArray, List.set_cons_zero, List.set_cons_succ]
          refine wpAnyH_take (i := 19) (v := ?tv20) rfl (by kernel_rfl) (by kernel_rfl) (by kernel_rfl) (fun _ _ _ h => h) (Or.inl ⟨by rfl, ?th20⟩) (by assumption) ?tr20
          case th20 => (intro w hSw; (try dsimp only at hSw); go_simp; all_goals (with_reducible rfl))
          simp only [Act.put, List.getElem_toArray, List.getElem_cons_zero, List.getElem_cons_succ, List.setIfInBounds_toArray, List.set_cons_zero, List.set_cons_succ]
          refine wpAnyH_ready (rs := [20]) (by kernel_rfl) (by simp) ?_
          refine AllReadyH.cons rfl (fun K hK => ?_) AllReadyH.nil
          go_simp
          refine hK.out _ _ (FB.out _ C1) (fun hHeld => ?_)
          clear hK K
          try simp only [Act.put, List.getElem_toArray, List.getElem_cons_zero, List.getElem_cons_succ, List.setIfInBounds_toArray, List.set_cons_zero, List.set_cons_succ]
          refine wpAnyH_take (i := 21) (v := ?tv21) rfl (by kernel_rfl) (by kernel_rfl) (by kernel_rfl) (fun _ _ _ h => h) (Or.inl ⟨by rfl, ?th21⟩) (by assumption) ?tr21
          case th21 => (intro w hSw; (try dsimp only at hSw); go_simp; all_goals (with_reducible rfl))
          simp only [Act.put, List.getElem_toArray, List.getElem_cons_zero, List.getElem_cons_succ, List.setIfInBounds_toArray, List.set_cons_zero, List.set_cons_succ]
          refine wpAnyH_take (i := 22) (v := ?tv22) rfl (by kernel_rfl) (by kernel_rfl) (by kernel_rfl) (fun _ _ _ h => h) (Or.inl ⟨by rfl, ?th22⟩) (by assumption) ?tr22
          case th22 => (intro w hSw; (try dsimp only at hSw); go_simp; all_goals (with_reducible rfl))
          simp only [Act.put, List.getElem_toArray, List.getElem_cons_zero, List.getElem_cons_succ, List.setIfInBounds_toArray, List.set_cons_zero, List.set_cons_succ]
          refine wpAnyH_ready (rs := [23]) (by kernel_rfl) (by simp) ?_
          refine AllReadyH.cons rfl (fun K hK => ?_) AllReadyH.nil
          go_simp
          refine hK.out _ _ (FB.out _ C2) (fun hHeld => ?_)
          clear hK K
          try simp only [Act.put, List.getElem_toArray, List.getElem_cons_zero, List.getElem_cons_succ, List.setIfInBounds_toArray, List.set_cons_zero, List.set_cons_succ]
          refine wpAnyH_done (by kernel_rfl) ?_ _
          have F := hid F
          have C2 := hid C2
          clear f0 f1 f2 f3 f4 z1 z2 z3 C0 C1
          go_wp2_with fail
          go_roundw
          case rel => exact ⟨k + 1, _, by omega, by go_num, F, C2⟩
          case measure => simp [intOf]; omega
      · skip
        obtain ⟨f0, f1, f2⟩ := (hN.out.below BD).row.cells HX.out
        obtain ⟨f3, f4⟩ := FB.out _ (below_tr hb.out BD)
        go_simp
        refine hK.out _ _ ⟨f3, f4⟩ (fun hHeld => ?_)
        clear hK K f0 f1 f2 f3 f4
        try simp only [Act.put, List.getElem_toArray, List.getElem_cons_zero, List.getElem_cons_succ, List.setIfInBounds_toArray, List.set_cons_zero, List.set_cons_succ]
        refine wpAnyH_ready (rs := [8]) (by kernel_rfl) (by simp) ?_
        refine AllReadyH.cons rfl (fun K hK => ?_) AllReadyH.nil
        obtain ⟨f0, f1, f2⟩ := (hN.out.below BD).row.cells HX.out
        obtain ⟨f3, f4⟩ := FB.out _ (below_tr hb.out BD)
        go_simp
        refine hK.out _ _ ⟨f3, f4⟩ (fun hHeld => ?_)
        clear hK K f0 f1 f2 f3 f4
        try simp only [Act.put, List.getElem_toArray, List.getElem_cons_zero, List.getElem_cons_succ, List.setIfInBounds_toArray, List.set_cons_zero, List.set_cons_succ]
        refine wpAnyH_ready (rs := [10]) (by kernel_rfl) (by simp) ?_
        refine AllReadyH.cons rfl (fun K hK => ?_) AllReadyH.nil
        obtain ⟨f0, f1, f2⟩ := (hN.out.below BD).row.cells HX.out
        obtain ⟨f3, f4⟩ := FB.out _ (below_tr hb.out BD)
        go_simp
        refine (ample_any wr.drew ha hc x.h 77 0 (LH.out.below (below_tr BW.out BD)) HZ HL.out).mono ?_
        rintro r u10 ⟨g10, c10, rfl, o10, h10⟩
        have b10 := below_tr BD h10
        have m10 : AmAt u10 wf.heap.size (.slice (some ⟨g10, 0, none⟩) x.h.length c10) x.h := ⟨g10, c10, rfl, o10.lower (Nat.le_trans hb.out.size BD.size)⟩
        clear o10 f0 f1 f2 f3 f4
        obtain ⟨f0, f1, f2⟩ := (hN.out.below b10).row.cells HX.out
        obtain ⟨f3, f4⟩ := FB.out _ (below_tr hb.out b10)
        refine hK.out _ _ ⟨f3, f4⟩ (fun hHeld => ?_)
        clear hK K f0 f1 f2 f3 f4
        try simp only [Act.put, List.getElem_toArray, List.getElem_cons_zero, List.getElem_cons_succ, List.setIfInBounds_toArray, List.set_cons_zero, List.set_cons_succ]
        refine wpAnyH_ready (rs := [17]) (by kernel_rfl) (by simp) ?_
        refine AllReadyH.cons rfl (fun K hK => ?_) AllReadyH.nil
        obtain ⟨f0, f1, f2⟩ := (hN.out.below b10).row.cells HX.out
        obtain ⟨f3, f4⟩ := FB.out _ (below_tr hb.out b10)
        go_simp
        refine (ample_any u10 qa qc x.q 77 0 (LQ.out.below (below_tr BW.out b10)) QZ QL.out).mono ?_
        rintro r u11 ⟨g11, c11, rfl, o11, h11⟩
        have b11 := below_tr b10 h11
        have m11 : AmAt u11 wf.heap.size (.slice (some ⟨g11, 0, none⟩) x.q.length c11) x.q := ⟨g11, c11, rfl, o11.lower (Nat.le_trans hb.out.size b10.size)⟩
        clear o11 f0 f1 f2 f3 f4
        have mh := AmAt.below m10 h11
        obtain ⟨f0, f1, f2⟩ := (hN.out.below b11).row.cells HX.out
        obtain ⟨f3, f4⟩ := FB.out _ (below_tr hb.out b11)
        refine hK.out _ _ ⟨f3, f4⟩ (fun hHeld => ?_)
        clear hK K f0 f1 f2 f3 f4
        try simp only [Act.put, List.getElem_toArray, List.getElem_cons_zero, List.getElem_cons_succ, List.setIfInBounds_toArray, List.set_cons_zero, List.set_cons_succ]
        have F := (hN.out.below b11).put HX.out HY.out mh m11
        have C0 := below_tr hb.out b11
        have C1 := C0.setCell (p := ⟨g, k * 3 + 1, none⟩) GE.out (.slice (some ⟨g10, 0, none⟩) x.h.length c10)
        have C2 := C1.setCell (p := ⟨g, k * 3 + 2, none⟩) GE.out (.slice (some ⟨g11, 0, none⟩) x.q.length c11)
        obtain ⟨f0, f1, f2⟩ := (hN.out.below b11).row.cells HX.out
        obtain ⟨f3, f4⟩ := FB.out _ (below_tr hb.out b11)
        have z1 := (hN.out.below b11).row.fz (k * 3 + 1)
        have z2 : (u11.setCell ⟨g, k * 3 + 1, none⟩ (.slice (some ⟨g10, 0, none⟩) x.h.length c10)).frozen? ⟨g, k * 3 + 2, none⟩ = false := fz2 (hN.out.below b11).row _ _ _
        have z3 : (u11.setCell ⟨g, k * 3 + 1, none⟩ (.slice (some ⟨g10, 0, none⟩) x.h.length c10)).cell? ⟨g, k * 3 + 2, none⟩ = some (.slice qa x.q.length qc) := cell2 (hN.out.below b11).row f2 (by omega) _
        refine wpAnyH_take (i := 18) (v := ?tv23) rfl (by kernel_rfl) (by kernel_rfl) (by kernel_rfl) (fun _ _ _ h => h) (Or.inl ⟨by rfl, ?th23⟩) (by assumption) ?tr23
        case th23 => (intro w hSw; (try dsimp only at hSw); go_simp; all_goals (with_reducible rfl))
        simp only [Act.put, List.getElem_toArray, List.getElem_cons_zero, List.getElem_cons_succ, List.setIfInBounds_toArray, List.set_cons_zero, List.set_cons_succ]
        refine wpAnyH_take (i := 19) (v := ?tv24) rfl (by kernel_rfl) (by kernel_rfl) (by kernel_rfl) (fun _ _ _ h => h) (Or.inl ⟨by rfl, ?th24⟩) (by assumption) ?tr24
        case th24 => (intro w hSw; (try dsimp only at hSw); go_simp; all_goals (with_reducible rfl))
        simp only [Act.put, List.getElem_toArray, List.getElem_cons_zero, List.getElem_cons_succ, List.setIfInBounds_toArray, List.set_cons_zero, List.set_cons_succ]
        refine wpAnyH_ready (rs := [20]) (by kernel_rfl) (by simp) ?_
        refine AllReadyH.cons rfl (fun K hK => ?_) AllReadyH.nil
        go_simp
        refine hK.out _ _ (FB.out _ C1) (fun hHeld => ?_)
        clear hK K
        try simp only [Act.put, List.getElem_toArray, List.getElem_cons_zero, List.getElem_cons_succ, List.setIfInBounds_toArray, List.set_cons_zero, List.set_cons_succ]
        refine wpAnyH_take (i := 21) (v := ?tv25) rfl (by kernel_rfl) (by kernel_rfl) (by kernel_rfl) (fun _ _ _ h => h) (Or.inl ⟨by rfl, ?th25⟩) (by assumption) ?tr25
        case th25 => (intro w hSw; (try dsimp only at hSw); go_simp; all_goals (with_reducible rfl))
        simp only [Act.put, List.getElem_toArray, List.getElem_cons_zero, List.getElem_cons_succ, List.setIfInBounds_toArray, List.set_cons_zero, List.set_cons_succ]
        refine wpAnyH_take (i := 22) (v := ?tv26) rfl (by kernel_rfl) (by kernel_rfl) (by kernel_rfl) (fun _ _ _ h => h) (Or.inl ⟨by rfl, ?th26⟩) (by assumption) ?tr26
        case th26 => (intro w hSw; (try dsimp only at hSw); go_simp; all_goals (with_reducible rfl))
        simp only [Act.put, List.getElem_toArray, List.getElem_cons_zero, List.getElem_cons_succ, List.setIfInBounds_toArray, List.set_cons_zero, List.set_cons_succ]
        refine wpAnyH_ready (rs := [23]) (by kernel_rfl) (by simp) ?_
        refine AllReadyH.cons rfl (fun K hK => ?_) AllReadyH.nil
        go_simp
        refine hK.out _ _ (FB.out _ C2) (fun hHeld => ?_)
        clear hK K
        try simp only [Act.put, List.getElem_toArray, List.getElem_cons_zero, List.getElem_cons_succ, List.setIfInBounds_toArray, List.set_cons_zero, List.set_cons_succ]
        refine wpAnyH_done (by kernel_rfl) ?_ _
        have F := hid F
        have C2 := hid C2
        clear f0 f1 f2 f3 f4 z1 z2 z3 C0 C1
        go_wp2_with fail
        go_roundw
        case rel => exact ⟨k + 1, _, by omega, by go_num, F, C2⟩
        case measure => simp [intOf]; omega
    · obtain rfl : k = T.length := by omega
      have j3 : decide ((T.length : Int) < (T.length : Int)) = false := by simp
      obtain ⟨WM, rfl⟩ : ∃ WM, WM = wr := ⟨_, rfl⟩
      have TB : Hid (TbAt WM a2 T) := by
        obtain ⟨a9, c9, e9, h9⟩ := hN.out.tb
        injection e9 with e9 _ _
        subst e9
        exact h9
      have SP := hid hN.out.spAt
      have KA1 := hid fun W (hW : Below WM.heap.size WM W) => KA.out W a2 c2 T t i m (TB.out.below hW) ln2
      have KD1 := hid fun W (hW : Below WM.heap.size WM W) => KD.out W a2 c2 T t (TB.out.below hW) ln2
      have KW1 := hid fun W (hW : Below WM.heap.size WM W) => KW.out W a2 c2 T (TB.out.below hW) ln2
      have BW := hid (below_tr BF.out hb.out)
      clear KA KD KW
      go_wp2_with fail
      refine (KA1.out _ (Below.refl _ _)).mono ?_
      rintro r w3 ⟨va, rfl, ta, b3⟩
      have TA := hid ta
      have B3 := hid b3
      clear ta b3
      go_wp2_with fail
      refine (KD1.out _ B3.out).mono ?_
      rintro r w4 ⟨vb, vt, rfl, td, ot, b4⟩
      have TA := hid (TA.out.below b4)
      have TD := hid (td.lower B3.out.size)
      have B4 := hid (below_tr B3.out b4)
      clear td ot b4 B3
      go_wp2_with fail
      refine (KW1.out _ B4.out).mono ?_
      rintro r w5 ⟨vw, rfl, ow, b5⟩
      have TA := hid (TA.out.below b5)
      have TD := hid (TD.out.below b5)
      have B5 := hid (below_tr B4.out b5)
      have H5 : Hid (Below w5.heap.size w5 w5) := Below.refl _ _
      clear ow b5 B4 KW1
      obtain ⟨AV, hAV⟩ : ∃ AV, AV = askV T t i m := ⟨_, rfl⟩
      obtain ⟨DV, hDV⟩ : ∃ DV, DV = dropV T t := ⟨_, rfl⟩
      rw [← hAV] at TA KA1
      rw [← hDV] at TD KD1
      clear hAV hDV
      go_wp2_with fail
      go_loopw [92] (fun ix wr => ∃ k : Nat, k ≤ T.length ∧ ix = .int .i64 (k : Int) ∧ Hid (Below w5.heap.size w5 wr)) (fun ix _ => T.length - (intOf ix).toNat)
      case atStart => exact ⟨0, Nat.zero_le _, rfl, H5⟩
      case round =>
        clear H5
        obtain ⟨k, hk, rfl, hb2⟩ := hrel
        by_cases hlt : k < T.length
        · obtain ⟨x, hx⟩ : ∃ x, T[k]? = some x := ⟨_, List.getElem?_eq_getElem hlt⟩
          obtain ⟨z, hz⟩ : ∃ z, P[k]? = some z := ⟨_, List.getElem?_eq_getElem (by rw [hN.out.len]; exact hlt)⟩
          have BM := hid (below_tr B5.out hb2.out)
          obtain ⟨⟨g1, c6, e6, o6⟩, ⟨g2, c7, e7, o7⟩⟩ := hN.out.done k z x hlt hz hx
          obtain ⟨s1, s2⟩ := HSz.out x (List.mem_of_getElem? hx)
          obtain ⟨zi, ha, hn, hc, qa, qn, qc⟩ := z
          injection e6 with e6a e6b e6c
          injection e7 with e7a e7b e7c
          subst e6a; subst e6b; subst e6c; subst e7a; subst e7b; subst e7c
          obtain ⟨b, o, ea, _, d1, d2⟩ := own_rw hN.out.row k _ hz
          obtain ⟨b', o', vh, vq, ea', _, p1, p2, lh, lq⟩ := H.out k x hx
          subst ea; subst ea'
          obtain ⟨ah, ch, rfl, lh, _⟩ := lh
          obtain ⟨aq, cq, rfl, lq, _⟩ := lq
          have O6 := hid o6
          have O7 := hid o7
          have LH := hid lh
          have LQ := hid lq
          have D1 := hid d1
          have D2 := hid d2
          have P1 := hid p1
          have P2 := hid p2
          have KS1 := hid fun W (hW : Below WM.heap.size WM W) => stays_any W wf.heap.size g1 hc ah ch x.h 77 0 (O6.out.below hW) (LH.out.below (below_tr BW.out hW)) s1
          have KS2 := hid fun W (hW : Below WM.heap.size WM W) => stays_any W wf.heap.size g2 qc aq cq x.q 77 0 (O7.out.below hW) (LQ.out.below (below_tr BW.out hW)) s2
          have HS : Hid (∀ W, Below WM.heap.size WM W → W.cell? ⟨b, o + k * 3 + 1, none⟩ = some (.slice (some ⟨g1, 0, none⟩) x.h.length hc) ∧ W.cell? ⟨b, o + k * 3 + 2, none⟩ = some (.slice (some ⟨g2, 0, none⟩) x.q.length qc) ∧ W.cell? ⟨b', o' + k * 3 + 1, none⟩ = some (.slice ah x.h.length ch) ∧ W.cell? ⟨b', o' + k * 3 + 2, none⟩ = some (.slice aq x.q.length cq) ∧ W.cell? ⟨fb, 0, none⟩ = some (.int .i64 77) ∧ W.cell? ⟨fb, 1, none⟩ = some (.int .i64 0)) := fun W hW =>
            ⟨keep1 hW D1.out, keep1 hW D2.out, keep1 (below_tr BW.out hW) P1.out, keep1 (below_tr BW.out hW) P2.out, (FB.out W (below_tr hb.out hW)).1, (FB.out W (below_tr hb.out hW)).2⟩
          have k0 : (0 : Int) ≤ (k : Int) := by omega
          have k1 : (k : Int) < (T.length : Int) := by omega
          clear hx hz s1 s2 o6 o7 lh lq d1 d2 p1 p2 O6 O7 LH LQ D1 D2 P1 P2
          generalize x.h.length = nh at *
          generalize x.q.length = nq at *
          go_upto_region 17 with fail
          have BD : Below WM.heap.size WM wr.drew := below_tr BM.out (Below.refl _ _).drew
          refine wp_region_held_drew (S := fun W => W.cell? ⟨b, o + k * 3 + 1, none⟩ = some (.slice (some ⟨g1, 0, none⟩) nh hc) ∧ W.cell? ⟨b, o + k * 3 + 2, none⟩ = some (.slice (some ⟨g2, 0, none⟩) nq qc) ∧ W.cell? ⟨b', o' + k * 3 + 1, none⟩ = some (.slice ah nh ch) ∧ W.cell? ⟨b', o' + k * 3 + 2, none⟩ = some (.slice aq nq cq) ∧ W.cell? ⟨fb, 0, none⟩ = some (.int .i64 77) ∧ W.cell? ⟨fb, 1, none⟩ = some (.int .i64 0)) (by kernel_rfl) (HS.out _ BD) (fun hHeld => ?_)
          refine wpAnyH_take (i := 0) (v := ?tv27) rfl (by kernel_rfl) (by kernel_rfl) (by kernel_rfl) (fun _ _ _ h => h) (Or.inl ⟨by rfl, ?th27⟩) (by assumption) ?tr27
          case th27 => (intro w hSw; (try dsimp only at hSw); go_simp; all_goals (with_reducible rfl))
          simp only [Act.put, List.getElem_toArray, List.getElem_cons_zero, List.setIfInBounds_toArray, List.set_cons_zero, List.set_cons_succ]
          refine wpAnyH_take (i := 1) (v := ?tv28) rfl (by kernel_rfl) (by kernel_rfl) (by kernel_rfl) (fun _ _ _ h => h) (Or.inl ⟨by rfl, ?th28⟩) (by assumption) ?tr28
          case th28 => (intro w hSw; (try dsimp only at hSw); go_simp; all_goals (with_reducible rfl))
          simp only [Act.put, List.getElem_toArray, List.getElem_cons_zero, List.getElem_cons_succ, List.setIfInBounds_toArray, List.set_cons_zero, List.set_cons_succ]
          refine wpAnyH_take (i := 2) (v := ?tv29) rfl (by kernel_rfl) (by kernel_rfl) (by kernel_rfl) (fun _ _ _ h => h) (Or.inl ⟨by rfl, ?th29⟩) (by assumption) ?tr29
          case th29 => (intro w hSw; (try dsimp only at hSw); go_simp; all_goals (with_reducible rfl))
          simp only [Act.put, List.getElem_toArray, List.getElem_cons_zero, List.getElem_cons_succ, List.setIfInBounds_toArray, List.set_cons_zero, List.set_cons_succ]
          refine wpAnyH_take (i := 3) (v := ?tv30) rfl (by kernel_rfl) (by kernel_rfl) (by kernel_rfl) (fun _ _ _ h => h) (Or.inl ⟨by rfl, ?th30⟩) (by assumption) ?tr30
          case th30 => (intro w hSw; (try dsimp only at hSw); go_simp; all_goals (with_reducible rfl))
          simp only [Act.put, List.getElem_toArray, List.getElem_cons_zero, List.getElem_cons_succ, List.setIfInBounds_toArray, List.set_cons_zero, List.set_cons_succ]
          refine wpAnyH_take (i := 4) (v := ?tv31) rfl (by kernel_rfl) (by kernel_rfl) (by kernel_rfl) (fun _ _ _ h => h) (Or.inl ⟨by rfl, ?th31⟩) (by assumption) ?tr31
          case th31 => (intro w hSw; (try dsimp only at hSw); go_simp; all_goals (with_reducible rfl))
          simp only [Act.put, List.getElem_toArray, List.getElem_cons_zero, List.getElem_cons_succ, List.setIfInBounds_toArray, List.set_cons_zero, List.set_cons_succ]
          refine wpAnyH_take (i := 5) (v := ?tv32) rfl (by kernel_rfl) (by kernel_rfl) (by kernel_rfl) (fun _ _ _ h => h) (Or.inl ⟨by rfl, ?th32⟩) (by assumption) ?tr32
          case th32 => (intro w hSw; (try dsimp only at hSw); go_simp; all_goals (with_reducible rfl))
          simp only [Act.put, List.getElem_toArray, List.getElem_cons_zero, List.getElem_cons_succ, List.setIfInBounds_toArray, List.set_cons_zero, List.set_cons_succ]
          refine wpAnyH_take (i := 6) (v := ?tv33) rfl (by kernel_rfl) (by kernel_rfl) (by kernel_rfl) (fun _ _ _ h => h) (Or.inl ⟨by rfl, ?th33⟩) (by assumption) ?tr33
          case th33 => (intro w hSw; (try dsimp only at hSw); go_simp; all_goals (with_reducible rfl))
          simp only [Act.put, List.getElem_toArray, List.getElem_cons_zero, List.getElem_cons_succ, List.setIfInBounds_toArray, List.set_cons_zero, List.set_cons_succ]
          refine wpAnyH_take (i := 7) (v := ?tv34) rfl (by kernel_rfl) (by kernel_rfl) (by kernel_rfl) (fun _ _ _ h => h) (Or.inl ⟨by rfl, ?th34⟩) (by assumption) ?tr34
          case th34 => (intro w hSw; (try dsimp only at hSw); go_simp; all_goals (with_reducible rfl))
          simp only [Act.put, List.getElem_toArray, List.getElem_cons_zero, List.getElem_cons_succ, List.setIfInBounds_toArray, List.set_cons_zero, List.set_cons_succ]
          refine wpAnyH_take (i := 8) (v := ?tv35) rfl (by kernel_rfl) (by kernel_rfl) (by kernel_rfl) (fun _ _ _ h => h) (Or.inl ⟨by rfl, ?th35⟩) (by assumption) ?tr35
          case th35 => (intro w hSw; (try dsimp only at hSw); go_simp; all_goals (with_reducible rfl))
          simp only [Act.put, List.getElem_toArray, List.getElem_cons_zero, List.getElem_cons_succ, List.setIfInBounds_toArray, List.set_cons_zero, List.set_cons_succ]
          refine wpAnyH_take (i := 9) (v := ?tv36) rfl (by kernel_rfl) (by kernel_rfl) (by kernel_rfl) (fun _ _ _ h => h) (Or.inl ⟨by rfl, ?th36⟩) (by assumption) ?tr36
          case th36 => (intro w hSw; (try dsimp only at hSw); go_simp; all_goals (with_reducible rfl))
          simp only [Act.put, List.getElem_toArray, List.getElem_cons_zero, List.getElem_cons_succ, List.setIfInBounds_toArray, List.set_cons_zero, List.set_cons_succ]
          refine wpAnyH_take (i := 10) (v := ?tv37) rfl (by kernel_rfl) (by kernel_rfl) (by kernel_rfl) (fun _ _ _ h => h) (Or.inl ⟨by rfl, ?th37⟩) (by assumption) ?tr37
          case th37 => (intro w hSw; (try dsimp only at hSw); go_simp; all_goals (with_reducible rfl))
          simp only [Act.put, List.getElem_toArray, List.getElem_cons_zero, List.getElem_cons_succ, List.setIfInBounds_toArray, List.set_cons_zero, List.set_cons_succ]
          refine wpAnyH_ready (rs := [11]) (by kernel_rfl) (by simp) ?_
          refine AllReadyH.cons rfl (fun K hK => ?_) AllReadyH.nil
          go_simp
          refine (KS1.out _ BD).mono ?_
          rintro r v1 ⟨rfl, hv1⟩
          have BE := below_tr BD hv1
          have CE := below_tr (below_tr hb2.out (Below.refl _ _).drew) hv1
          refine hK.out _ _ (HS.out _ BE) (fun hHeld => ?_)
          clear hK K
          try simp only [Act.put, List.getElem_toArray, List.getElem_cons_zero, List.getElem_cons_succ, List.setIfInBounds_toArray, List.set_cons_zero, List.set_cons_succ]
          refine wpAnyH_take (i := 12) (v := ?tv38) rfl (by kernel_rfl) (by kernel_rfl) (by kernel_rfl) (fun _ _ _ h => h) (Or.inl ⟨by rfl, ?th38⟩) (by assumption) ?tr38
          case th38 => (intro w hSw; (try dsimp only at hSw); go_simp; all_goals (with_reducible rfl))
          simp only [Act.put, List.getElem_toArray, List.getElem_cons_zero, List.getElem_cons_succ, List.setIfInBounds_toArray, List.set_cons_zero, List.set_cons_succ]
          refine wpAnyH_take (i := 13) (v := ?tv39) rfl (by kernel_rfl) (by kernel_rfl) (by kernel_rfl) (fun _ _ _ h => h) (Or.inl ⟨by rfl, ?th39⟩) (by assumption) ?tr39
          case th39 => (intro w hSw; (try dsimp only at hSw); go_simp; all_goals (with_reducible rfl))
          simp only [Act.put, List.getElem_toArray, List.getElem_cons_zero, List.getElem_cons_succ, List.setIfInBounds_toArray, List.set_cons_zero, List.set_cons_succ]
          refine wpAnyH_take (i := 14) (v := ?tv40) rfl (by kernel_rfl) (by kernel_rfl) (by kernel_rfl) (fun _ _ _ h => h) (Or.inl ⟨by rfl, ?th40⟩) (by assumption) ?tr40
          case th40 => (intro w hSw; (try dsimp only at hSw); go_simp; all_goals (with_reducible rfl))
          simp only [Act.put, List.getElem_toArray, List.getElem_cons_zero, List.getElem_cons_succ, List.setIfInBounds_toArray, List.set_cons_zero, List.set_cons_succ]
          refine wpAnyH_take (i := 15) (v := ?tv41) rfl (by kernel_rfl) (by kernel_rfl) (by kernel_rfl) (fun _ _ _ h => h) (Or.inl ⟨by rfl, ?th41⟩) (by assumption) ?tr41
          case th41 => (intro w hSw; (try dsimp only at hSw); go_simp; all_goals (with_reducible rfl))
          simp only [Act.put, List.getElem_toArray, List.getElem_cons_zero, List.getElem_cons_succ, List.setIfInBounds_toArray, List.set_cons_zero, List.set_cons_succ]
          refine wpAnyH_take (i := 16) (v := ?tv42) rfl (by kernel_rfl) (by kernel_rfl) (by kernel_rfl) (fun _ _ _ h => h) (Or.inl ⟨by rfl, ?th42⟩) (by assumption) ?tr42
          case th42 => (intro w hSw; (try dsimp only at hSw); go_simp; all_goals (with_reducible rfl))
          simp only [Act.put, List.getElem_toArray, List.getElem_cons_zero, List.getElem_cons_succ, List.setIfInBounds_toArray, List.set_cons_zero, List.set_cons_succ]
          refine wpAnyH_take (i := 17) (v := ?tv43) rfl (by kernel_rfl) (by kernel_rfl) (by kernel_rfl) (fun _ _ _ h => h) (Or.inl ⟨by rfl, ?th43⟩) (by assumption) ?tr43
          case th43 => (intro w hSw; (try dsimp only at hSw); go_simp; all_goals (with_reducible rfl))
          simp only [Act.put, List.getElem_toArray, List.getElem_cons_zero, List.getElem_cons_succ, List.setIfInBounds_toArray, List.set_cons_zero, List.set_cons_succ]
          refine wpAnyH_take (i := 18) (v := ?tv44) rfl (by kernel_rfl) (by kernel_rfl) (by kernel_rfl) (fun _ _ _ h => h) (Or.inl ⟨by rfl, ?th44⟩) (by assumption) ?tr44
          case th44 => (intro w hSw; (try dsimp only at hSw); go_simp; all_goals (with_reducible rfl))
          simp only [Act.put, List.getElem_toArray, List.getElem_cons_zero, List.getElem_cons_succ, List.setIfInBounds_toArray, List.set_cons_zero, List.set_cons_succ]
          refine wpAnyH_take (i := 19) (v := ?tv45) rfl (by kernel_rfl) (by kernel_rfl) (by kernel_rfl) (fun _ _ _ h => h) (Or.inl ⟨by rfl, ?th45⟩) (by assumption) ?tr45
          case th45 => (intro w hSw; (try dsimp only at hSw); go_simp; all_goals (with_reducible rfl))
          simp only [Act.put, List.getElem_toArray, List.getElem_cons_zero, List.getElem_cons_succ, List.setIfInBounds_toArray, List.set_cons_zero, List.set_cons_succ]
          refine wpAnyH_take (i := 20) (v := ?tv46) rfl (by kernel_rfl) (by kernel_rfl) (by kernel_rfl) (fun _ _ _ h => h) (Or.inl ⟨by rfl, ?th46⟩) (by assumption) ?tr46
          case th46 => (intro w hSw; (try dsimp only at hSw); go_simp; all_goals (with_reducible rfl))
          simp only [Act.put, List.getElem_toArray, List.getElem_cons_zero, List.getElem_cons_succ, List.setIfInBounds_toArray, List.set_cons_zero, List.set_cons_succ]
          refine wpAnyH_take (i := 21) (v := ?tv47) rfl (by kernel_rfl) (by kernel_rfl) (by kernel_rfl) (fun _ _ _ h => h) (Or.inl ⟨by rfl, ?th47⟩) (by assumption) ?tr47
          case th47 => (intro w hSw; (try dsimp only at hSw); go_simp; all_goals (with_reducible rfl))
          simp only [Act.put, List.getElem_toArray, List.getElem_cons_zero, List.getElem_cons_succ, List.setIfInBounds_toArray, List.set_cons_zero, List.set_cons_succ]
          refine wpAnyH_take (i := 22) (v := ?tv48) rfl (by kernel_rfl) (by kernel_rfl) (by kernel_rfl) (fun _ _ _ h => h) (Or.inl ⟨by rfl, ?th48⟩) (by assumption) ?tr48
          case th48 => (intro w hSw; (try dsimp only at hSw); go_simp; all_goals (with_reducible rfl))
          simp only [Act.put, List.getElem_toArray, List.getElem_cons_zero, List.getElem_cons_succ, List.setIfInBounds_toArray, List.set_cons_zero, List.set_cons_succ]
          refine wpAnyH_take (i := 23) (v := ?tv49) rfl (by kernel_rfl) (by kernel_rfl) (by kernel_rfl) (fun _ _ _ h => h) (Or.inl ⟨by rfl, ?th49⟩) (by assumption) ?tr49
          case th49 => (intro w hSw; (try dsimp only at hSw); go_simp; all_goals (with_reducible rfl))
          simp only [Act.put, List.getElem_toArray, List.getElem_cons_zero, List.getElem_cons_succ, List.setIfInBounds_toArray, List.set_cons_zero, List.set_cons_succ]
          refine wpAnyH_take (i := 24) (v := ?tv50) rfl (by kernel_rfl) (by kernel_rfl) (by kernel_rfl) (fun _ _ _ h => h) (Or.inl ⟨by rfl, ?th50⟩) (by assumption) ?tr50
          case th50 => (intro w hSw; (try dsimp only at hSw); go_simp; all_goals (with_reducible rfl))
          simp only [Act.put, List.getElem_toArray, List.getElem_cons_zero, List.getElem_cons_succ, List.setIfInBounds_toArray, List.set_cons_zero, List.set_cons_succ]
          refine wpAnyH_ready (rs := [25]) (by kernel_rfl) (by simp) ?_
          refine AllReadyH.cons rfl (fun K hK => ?_) AllReadyH.nil
          go_simp
          refine (KS2.out _ BE).mono ?_
          rintro r v2 ⟨rfl, hv2⟩
          have BG := below_tr BE hv2
          have CG := hid (below_tr CE hv2)
          refine hK.out _ _ (HS.out _ BG) (fun hHeld => ?_)
          clear hK K
          try simp only [Act.put, List.getElem_toArray, List.getElem_cons_zero, List.getElem_cons_succ, List.setIfInBounds_toArray, List.set_cons_zero, List.set_cons_succ]
          refine wpAnyH_take (i := 26) (v := ?tv51) rfl (by kernel_rfl) (by kernel_rfl) (by kernel_rfl) (fun _ _ _ h => h) (Or.inl ⟨by rfl, ?th51⟩) (by assumption) ?tr51
          case th51 => (intro w hSw; (try dsimp only at hSw); go_simp; all_goals (with_reducible rfl))
          simp only [Act.put, List.getElem_toArray, List.getElem_cons_zero, List.getElem_cons_succ, List.setIfInBounds_toArray, List.set_cons_zero, List.set_cons_succ]
          refine wpAnyH_take (i := 27) (v := ?tv52) rfl (by kernel_rfl) (by kernel_rfl) (by kernel_rfl) (fun _ _ _ h => h) (Or.inl ⟨by rfl, ?th52⟩) (by assumption) ?tr52
          case th52 => (intro w hSw; (try dsimp only at hSw); go_simp; all_goals (with_reducible rfl))
          simp only [Act.put, List.getElem_toArray, List.getElem_cons_zero, List.getElem_cons_succ, List.setIfInBounds_toArray, List.set_cons_zero, List.set_cons_succ]
          refine wpAnyH_done (by kernel_rfl) ?_ _
          clear BD BE CE hv1 hv2 HS KS1 KS2 BG
          go_wp2_with fail
          go_roundw
          case rel => exact ⟨k + 1, by omega, by go_num, CG⟩
          case measure => simp [intOf]; omega
        · obtain rfl : k = T.length := by omega
          have TA := hid (TA.out.below hb2.out)
          have TD := hid (TD.out.below hb2.out)
          have B6 := hid (below_tr B5.out hb2.out)
          clear hb2 B5 HSz H
          go_wp2_with fail
          refine (KA1.out _ B6.out).mono ?_
          rintro r w7 ⟨vx, rfl, tx, b7⟩
          have TA := hid (TA.out.below b7)
          have TD := hid (TD.out.below b7)
          have TX := hid (tx.lower B6.out.size)
          have B7 := hid (below_tr B6.out b7)
          clear tx b7 B6 KA1
          go_wp2_with fail
          refine (KD1.out _ B7.out).mono ?_
          rintro r w8 ⟨vy, vt2, rfl, ty, ot, b8⟩
          have TT : Hid (TbIn w8 WM.heap.size va AV ∧ TbIn w8 WM.heap.size vb DV ∧ TbIn w8 WM.heap.size vx AV ∧ TbIn w8 WM.heap.size vy DV) := ⟨TA.out.below b8, TD.out.below b8, TX.out.below b8, ty.lower B7.out.size⟩
          have B8 := hid (below_tr B7.out b8)
          have SP := hid (SP.out.below B8.out)
          have C8 := hid (below_tr hb.out B8.out)
          have HPL := hid hN.out.len
          clear ty ot b8 B7 KD1 TA TD TX B8 hN TB BW hb
          obtain ⟨M, hM⟩ : ∃ M, M = WM.heap.size := ⟨_, rfl⟩
          rw [← hM] at SP TT
          clear hM
          go_wp2_with fail
          go_loopw [142] (fun ix wr => ∃ k : Nat, k ≤ T.length ∧ ix = .int .i64 (k : Int) ∧ Hid (SpAt wr wf.heap.size M (.slice a2 T.length c2) P) ∧ Hid (TbIn wr M va AV ∧ TbIn wr M vb DV ∧ TbIn wr M vx AV ∧ TbIn wr M vy DV) ∧ Hid (Below wf.heap.size wf wr)) (fun ix _ => T.length - (intOf ix).toNat)
          case atStart => exact ⟨0, Nat.zero_le _, rfl, SP, TT, C8⟩
          case round =>
            clear SP TT C8
            obtain ⟨k, hk, rfl, hS, hT, hb⟩ := hrel
            by_cases hlt : k < T.length
            · obtain ⟨z, hz⟩ : ∃ z, P[k]? = some z := ⟨_, List.getElem?_eq_getElem (by rw [HPL.out]; exact hlt)⟩
              obtain ⟨b, o, ea, _, _, _⟩ := own_rw hS.out.row k _ hz
              subst ea
              have HCe : Hid (∀ W, OwnIt W wf.heap.size (.slice (some ⟨b, o, none⟩) T.length c2) P → W.cell? ⟨b, o + k * 3 + 1, none⟩ = some z.vh ∧ W.cell? ⟨b, o + k * 3 + 2, none⟩ = some z.vq) := fun W hW => by
                obtain ⟨b9, o9, ea, _, d1, d2⟩ := own_rw hW k _ hz
                cases ea
                exact ⟨d1, d2⟩
              have HZ := hid hz
              obtain ⟨⟨g1, n1, c6, e6, lo6, hi6, le6, mx6, bl6⟩, _⟩ := hS.out.sp k z hz
              have k0 : (0 : Int) ≤ (k : Int) := by omega
              have k1 : (k : Int) < (T.length : Int) := by omega
              clear hz
              go_upto_region 25 with fail
              have SD := hS.out.below (show Below wr.heap.size wr wr.drew from (Below.refl _ _).drew)
              have BD : Below wf.heap.size wf wr.drew := below_tr hb.out (Below.refl _ _).drew
              have BL : Blk wr.drew g1 c6 := bl6
              have lt6 : g1 < wr.drew.heap.size := by obtain ⟨cu, ec, _⟩ := BL; exact lt_of_heap ec
              have Z1 := (HCe.out _ SD.row).1
              rw [e6] at Z1
              obtain ⟨f0, f1⟩ := FB.out _ BD
              have KP := hid (spoil_any wr.drew g1 n1 c6 77 0 BL lt6 le6 mx6)
              refine wp_region_held_drew (S := fun W => W.cell? ⟨b, o + k * 3 + 1, none⟩ = some (.slice (some ⟨g1, 0, none⟩) n1 c6) ∧ W.cell? ⟨fb, 0, none⟩ = some (.int .i64 77) ∧ W.cell? ⟨fb, 1, none⟩ = some (.int .i64 0)) (by kernel_rfl) ⟨Z1, f0, f1⟩ (fun hHeld => ?_)
              refine wpAnyH_take (i := 0) (v := ?tv53) rfl (by kernel_rfl) (by kernel_rfl) (by kernel_rfl) (fun _ _ _ h => h) (Or.inl ⟨by rfl, ?th53⟩) (by assumption) ?tr53
              case th53 => (intro w hSw; (try dsimp only at hSw); go_simp; all_goals (with_reducible rfl))
              simp only [Act.put, List.getElem_toArray, List.getElem_cons_zero, List.setIfInBounds_toArray, List.set_cons_zero, List.set_cons_succ]
              refine wpAnyH_take (i := 1) (v := ?tv54) rfl (by kernel_rfl) (by kernel_rfl) (by kernel_rfl) (fun _ _ _ h => h) (Or.inl ⟨by rfl, ?th54⟩) (by assumption) ?tr54
              case th54 => (intro w hSw; (try dsimp only at hSw); go_simp; all_goals (with_reducible rfl))
              simp only [Act.put, List.getElem_toArray, List.getElem_cons_zero, List.getElem_cons_succ, List.setIfInBounds_toArray, List.set_cons_zero, List.set_cons_succ]
              refine wpAnyH_take (i := 2) (v := ?tv55) rfl (by kernel_rfl) (by kernel_rfl) (by kernel_rfl) (fun _ _ _ h => h) (Or.inl ⟨by rfl, ?th55⟩) (by assumption) ?tr55
              case th55 => (intro w hSw; (try dsimp only at hSw); go_simp; all_goals (with_reducible rfl))
              simp only [Act.put, List.getElem_toArray, List.getElem_cons_zero, List.getElem_cons_succ, List.setIfInBounds_toArray, List.set_cons_zero, List.set_cons_succ]
              refine wpAnyH_take (i := 3) (v := ?tv56) rfl (by kernel_rfl) (by kernel_rfl) (by kernel_rfl) (fun _ _ _ h => h) (Or.inl ⟨by rfl, ?th56⟩) (by assumption) ?tr56
              case th56 => (intro w hSw; (try dsimp only at hSw); go_simp; all_goals (with_reducible rfl))
              simp only [Act.put, List.getElem_toArray, List.getElem_cons_zero, List.getElem_cons_succ, List.setIfInBounds_toArray, List.set_cons_zero, List.set_cons_succ]
              refine wpAnyH_take (i := 4) (v := ?tv57) rfl (by kernel_rfl) (by kernel_rfl) (by kernel_rfl) (fun _ _ _ h => h) (Or.inl ⟨by rfl, ?th57⟩) (by assumption) ?tr57
              case th57 => (intro w hSw; (try dsimp only at hSw); go_simp; all_goals (with_reducible rfl))
              simp only [Act.put, List.getElem_toArray, List.getElem_cons_zero, List.getElem_cons_succ, List.setIfInBounds_toArray, List.set_cons_zero, List.set_cons_succ]
              refine wpAnyH_take (i := 5) (v := ?tv58) rfl (by kernel_rfl) (by kernel_rfl) (by kernel_rfl) (fun _ _ _ h => h) (Or.inl ⟨by rfl, ?th58⟩) (by assumption) ?tr58
              case th58 => (intro w hSw; (try dsimp only at hSw); go_simp; all_goals (with_reducible rfl))
              simp only [Act.put, List.getElem_toArray, List.getElem_cons_zero, List.getElem_cons_succ, List.setIfInBounds_toArray, List.set_cons_zero, List.set_cons_succ]
              refine wpAnyH_ready (rs := [6]) (by kernel_rfl) (by simp) ?_
              refine AllReadyH.cons rfl (fun K hK => ?_) AllReadyH.nil
              go_simp
              refine KP.out.mono ?_
              rintro r v1 ⟨rfl, hg1, hb1⟩
              have S1 := hid (SD.spoil BL hg1 hb1)
              have T1 : Hid (TbIn v1 M va AV ∧ TbIn v1 M vb DV ∧ TbIn v1 M vx AV ∧ TbIn v1 M vy DV) := by
                have D : Below wr.heap.size wr wr.drew := (Below.refl _ _).drew
                exact ⟨(hT.out.1.below D).spoil hi6 hg1, (hT.out.2.1.below D).spoil hi6 hg1, (hT.out.2.2.1.below D).spoil hi6 hg1, (hT.out.2.2.2.below D).spoil hi6 hg1⟩
              have C1 : Hid (Below wf.heap.size wf v1) := BD.grown hg1 BD.size (fun q hq => by cases hq; exact lo6)
              have Z2 := (HCe.out _ S1.out.row).1
              rw [e6] at Z2
              obtain ⟨f0, f1⟩ := FB.out _ C1.out
              refine hK.out _ _ ⟨Z2, f0, f1⟩ (fun hHeld => ?_)
              clear hK K
              try simp only [Act.put, List.getElem_toArray, List.getElem_cons_zero, List.getElem_cons_succ, List.setIfInBounds_toArray, List.set_cons_zero, List.set_cons_succ]
              refine wpAnyH_done (by kernel_rfl) ?_ _
              clear hS hT hb SD BD BL lt6 Z1 KP hg1 hb1 Z2 f0 f1 e6 lo6 hi6 le6 mx6 bl6
              obtain ⟨_, ⟨g2, n2, c7, e7, lo7, hi7, le7, mx7, bl7⟩⟩ := S1.out.sp k z HZ.out
              go_upto_region 26 with fail
              have SD := S1.out.below (show Below v1.heap.size v1 v1.drew from (Below.refl _ _).drew)
              have BD : Below wf.heap.size wf v1.drew := below_tr C1.out (Below.refl _ _).drew
              have BL : Blk v1.drew g2 c7 := bl7
              have lt7 : g2 < v1.drew.heap.size := by obtain ⟨cu, ec, _⟩ := BL; exact lt_of_heap ec
              have Z1 := (HCe.out _ SD.row).2
              rw [e7] at Z1
              obtain ⟨f0, f1⟩ := FB.out _ BD
              have KP := hid (spoil_any v1.drew g2 n2 c7 77 0 BL lt7 le7 mx7)
              refine wp_region_held_drew (S := fun W => W.cell? ⟨b, o + k * 3 + 2, none⟩ = some (.slice (some ⟨g2, 0, none⟩) n2 c7) ∧ W.cell? ⟨fb, 0, none⟩ = some (.int .i64 77) ∧ W.cell? ⟨fb, 1, none⟩ = some (.int .i64 0)) (by kernel_rfl) ⟨Z1, f0, f1⟩ (fun hHeld => ?_)
              refine wpAnyH_take (i := 0) (v := ?tv59) rfl (by kernel_rfl) (by kernel_rfl) (by kernel_rfl) (fun _ _ _ h => h) (Or.inl ⟨by rfl, ?th59⟩) (by assumption) ?tr59
              case th59 => (intro w hSw; (try dsimp only at hSw); go_simp; all_goals (with_reducible rfl))
              simp only [Act.put, List.getElem_toArray, List.getElem_cons_zero, List.setIfInBounds_toArray, List.set_cons_zero, List.set_cons_succ]
              refine wpAnyH_take (i := 1) (v := ?tv60) rfl (by kernel_rfl) (by kernel_rfl) (by kernel_rfl) (fun _ _ _ h => h) (Or.inl ⟨by rfl, ?th60⟩) (by assumption) ?tr60
              case th60 => (intro w hSw; (try dsimp only at hSw); go_simp; all_goals (with_reducible rfl))
              simp only [Act.put, List.getElem_toArray, List.getElem_cons_zero, List.getElem_cons_succ, List.setIfInBounds_toArray, List.set_cons_zero, List.set_cons_succ]
              refine wpAnyH_take (i := 2) (v := ?tv61) rfl (by kernel_rfl) (by kernel_rfl) (by kernel_rfl) (fun _ _ _ h => h) (Or.inl ⟨by rfl, ?th61⟩) (by assumption) ?tr61
              case th61 => (intro w hSw; (try dsimp only at hSw); go_simp; all_goals (with_reducible rfl))
              simp only [Act.put, List.getElem_toArray, List.getElem_cons_zero, List.getElem_cons_succ, List.setIfInBounds_toArray, List.set_cons_zero, List.set_cons_succ]
              refine wpAnyH_take (i := 3) (v := ?tv62) rfl (by kernel_rfl) (by kernel_rfl) (by kernel_rfl) (fun _ _ _ h => h) (Or.inl ⟨by rfl, ?th62⟩) (by assumption) ?tr62
              case th62 => (intro w hSw; (try dsimp only at hSw); go_simp; all_goals (with_reducible rfl))
              simp only [Act.put, List.getElem_toArray, List.getElem_cons_zero, List.getElem_cons_succ, List.setIfInBounds_toArray, List.set_cons_zero, List.set_cons_succ]
              refine wpAnyH_take (i := 4) (v := ?tv63) rfl (by kernel_rfl) (by kernel_rfl) (by kernel_rfl) (fun _ _ _ h => h) (Or.inl ⟨by rfl, ?th63⟩) (by assumption) ?tr63
              case th63 => (intro w hSw; (try dsimp only at hSw); go_simp; all_goals (with_reducible rfl))
              simp only [Act.put, List.getElem_toArray, List.getElem_cons_zero, List.getElem_cons_succ, List.setIfInBounds_toArray, List.set_cons_zero, List.set_cons_succ]
              refine wpAnyH_take (i := 5) (v := ?tv64) rfl (by kernel_rfl) (by kernel_rfl) (by kernel_rfl) (fun _ _ _ h => h) (Or.inl ⟨by rfl, ?th64⟩) (by assumption) ?tr64
              case th64 => (intro w hSw; (try dsimp only at hSw); go_simp; all_goals (with_reducible rfl))
              simp only [Act.put, List.getElem_toArray, List.getElem_cons_zero, List.getElem_cons_succ, List.setIfInBounds_toArray, List.set_cons_zero, List.set_cons_succ]
              refine wpAnyH_ready (rs := [6]) (by kernel_rfl) (by simp) ?_
              refine AllReadyH.cons rfl (fun K hK => ?_) AllReadyH.nil
              go_simp
              refine KP.out.mono ?_
              rintro r v2 ⟨rfl, hg2, hb2⟩
              have S2 := hid (SD.spoil BL hg2 hb2)
              have T2 : Hid (TbIn v2 M va AV ∧ TbIn v2 M vb DV ∧ TbIn v2 M vx AV ∧ TbIn v2 M vy DV) := by
                have D : Below v1.heap.size v1 v1.drew := (Below.refl _ _).drew
                exact ⟨(T1.out.1.below D).spoil hi7 hg2, (T1.out.2.1.below D).spoil hi7 hg2, (T1.out.2.2.1.below D).spoil hi7 hg2, (T1.out.2.2.2.below D).spoil hi7 hg2⟩
              have C2 : Hid (Below wf.heap.size wf v2) := BD.grown hg2 BD.size (fun q hq => by cases hq; exact lo7)
              have Z2 := (HCe.out _ S2.out.row).2
              rw [e7] at Z2
              obtain ⟨f0, f1⟩ := FB.out _ C2.out
              refine hK.out _ _ ⟨Z2, f0, f1⟩ (fun hHeld => ?_)
              clear hK K
              try simp only [Act.put, List.getElem_toArray, List.getElem_cons_zero, List.getElem_cons_succ, List.setIfInBounds_toArray, List.set_cons_zero, List.set_cons_succ]
              refine wpAnyH_done (by kernel_rfl) ?_ _
              clear SD BD BL lt7 Z1 KP hg2 hb2 Z2 f0 f1 e7 lo7 hi7 le7 mx7 bl7 S1 T1 C1 HCe
              go_wp2_with fail
              go_roundw
              case rel => exact ⟨k + 1, by omega, by go_num, S2, T2, C2⟩
              case measure => simp [intOf]; omega
            · obtain rfl : k = T.length := by omega
              obtain ⟨aa, ca, ra, pa, la, ma⟩ := hT.out.1.at_
              obtain ⟨ab, cb, rb, pb, lb, mb⟩ := hT.out.2.1.at_
              obtain ⟨ax, cx, rx, px, _, _⟩ := hT.out.2.2.1.at_
              obtain ⟨ay, cy, ry, py, _, _⟩ := hT.out.2.2.2.at_
              subst ra; subst rb; subst rx; subst ry
              unfold maxLen at ma mb
              have K8 := KS.out wr aa ax ca cx AV AV pa px (by omega)
              rw [decide_eq_true rfl] at K8
              have K8 := hid K8
              have K9 := hid fun W (hW : Below wr.heap.size wr W) => KS.out W ab ay cb cy DV DV (pb.below hW) (py.below hW) (by omega)
              rw [decide_eq_true rfl] at K9
              clear pa pb px py la ma lb mb hS hT KS
              go_wp2_with fail
              refine K8.out.mono ?_
              rintro r u1 ⟨rfl, h1⟩
              have KK := hid (K9.out _ h1)
              have E1 := hid (below_tr hb.out h1)
              clear h1 K8 K9
              go_wp2_with fail
              refine KK.out.mono ?_
              rintro r u2 ⟨rfl, h2⟩
              have E2 := below_tr BF.out (below_tr E1.out h2)
              clear h2
              go_wp2_with fail
              go_ret
              exact ⟨rfl, E2⟩
end Go.Proofs.Ytjoaedkgjnchoan.PLock
