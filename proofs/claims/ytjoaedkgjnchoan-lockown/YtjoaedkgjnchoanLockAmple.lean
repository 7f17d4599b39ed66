/- quirkeep.ample at locks, walked: a row of one's own with the same locks, and two more behind them. Conditions: how many locks there are. -/
import Derived.Test.YtjoaedkgjnchoanLockApp
import Derived.OrdersHeld
import Derived.Laws.OwnMore
namespace Go.Proofs.Ytjoaedkgjnchoan.PLock
open Go Go.RowKit PPool
set_option maxRecDepth 100000

/-- Two locks that were laid new. -/
theorem two_at (W : World) (u1 u2 t1 t2 : Int) : LkAt (W.alloc (.cells #[.int .i64 u1, .int .i64 t1, .int .i64 u2, .int .i64 t2] 62)) (some ⟨W.heap.size, 0, none⟩) [⟨u1, t1⟩, ⟨u2, t2⟩] := by
  refine fun j x hj => ⟨W.heap.size, 0, rfl, ?_, ?_⟩
  · rw [cell_of_row _ _ _ _ _ _ (heap_alloc_new W _)]
    match j, hj with
    | 0, hj => cases hj; rfl
    | 1, hj => cases hj; rfl
  · rw [cell_of_row _ _ _ _ _ _ (heap_alloc_new W _)]
    match j, hj with
    | 0, hj => cases hj; rfl
    | 1, hj => cases hj; rfl

theorem two_grown {W w1 : World} {row : Option Nat} {q : Nat} {Y : List Lk.Lo} (h : LkAt W (some ⟨q, 0, none⟩) Y) (hq : q < W.heap.size) (hg : W.grownBy w1 row) (hne : row ≠ some q) : LkAt w1 (some ⟨q, 0, none⟩) Y :=
  h.keep fun p hp => by cases hp; exact hg.block q hq (fun e => hne e.symm)
theorem made_own (W : World) (base n : Nat) (hb : base ≤ W.heap.size) (hn : n ≤ maxLen) : OwnLk (W.alloc (.cells (madeCells z2 (n * 2)) 62)) base (.slice (some ⟨W.heap.size, 0, none⟩) 0 n) [] :=
  World.ownsRow_made W _ n hb hn (by rw [size_madeCells])

set_option maxHeartbeats 4000000 in
theorem ample_any (w : World) (a : Option Addr) (c : Nat) (X : List Lk.Lo) (u t : Int) (h : LkAt w a X) (hc : a = none → c = 0) (hn : X.length * 16 ≤ 140737488351232) :
    Calls Try.prog 24 #[.slice a X.length c, .agg #[.int .i64 u, .int .i64 t]] w fun e w' =>
      ∃ g cp, e = .returned (.slice (some ⟨g, 0, none⟩) X.length cp) ∧ OwnLk w' w.heap.size (.slice (some ⟨g, 0, none⟩) (X.length + 2) cp) (X ++ [⟨u, t⟩, ⟨u, t⟩]) ∧ Below w.heap.size w w' := by
  obtain ⟨i0, hi, hz0, hz1, hz2⟩ := info_parts lock_info
  have hmk : ∀ W, (Instr.makeSlice 64 (.int .i64 0) (.int .i64 ((X.length : Int) + 3))).run Try.prog W = .ok (.slice (some ⟨W.heap.size, 0, none⟩) 0 (X.length + 3)) (W.alloc (.cells (madeCells z2 ((X.length + 3) * 2)) 62)) := by
    intro W
    have := run_make (P := Try.prog) W 64 62 i0 (.agg z2) Try.underlying64 hi hz0 .i64 .i64 0 ((X.length : Int) + 3) (by omega) (by omega) (by rw [hz2]; omega) (by omega)
    rw [hz1, show ((X.length : Int) + 3).toNat = X.length + 3 by omega] at this
    exact this
  have hw3 : IntKind.i64.wrap ((X.length : Int) + 3) = (X.length : Int) + 3 := IntWalk.i64_in _ ⟨by omega, by omega⟩
  have H := hid h
  have hnl : X.length ≤ 8796093021952 := by omega
  have hn' : (X.length : Int) ≤ 8796093021952 := by omega
  clear h hi hz0 hz1 hz2 hn
  go_enter Try.func24, Try.ntmps24
  go_wp2_with fail
  have hwb : (w.alloc (.cells #[.int .i64 u, .int .i64 t] 62)).heap.size = w.heap.size + 1 := by simp
  have BX : Hid (∀ W1, Below (w.heap.size + 1) (w.alloc (.cells #[.int .i64 u, .int .i64 t] 62)) W1 → W1.cell? ⟨w.heap.size, 0, none⟩ = some (.int .i64 u) ∧ W1.cell? ⟨w.heap.size, 1, none⟩ = some (.int .i64 t)) := fun W1 hb => box2 (by rw [hwb]; exact hb)
  have HB : Hid (LkAt (w.alloc (.cells #[.int .i64 u, .int .i64 t] 62)) a X) := H.out.below (bx _ _)
  have B0 : Hid (Below w.heap.size w (w.alloc (.cells #[.int .i64 u, .int .i64 t] 62))) := bx _ _
  generalize w.alloc (.cells #[.int .i64 u, .int .i64 t] 62) = wb at *
  have HP : Hid (∀ W1, Below (w.heap.size + 1) wb W1 → LkAt W1 a X) := fun W1 hb => HB.out.below (by rw [hwb]; exact hb)
  refine wp_region_noPanic ?_
  refine wp_region_any (by kernel_rfl) ?_
  change wpAny _ _ _ _ _ _ _ wb.drew
  refine wpAny_of_held (S := fun W => W.cell? ⟨w.heap.size, 0, none⟩ = some (.int .i64 u) ∧ W.cell? ⟨w.heap.size, 1, none⟩ = some (.int .i64 t)) _ _ _ _ ?_
  have b0 : Below (w.heap.size + 1) wb wb.drew := (Below.refl _ _).drew
  have hHeld : (fun W : World => W.cell? ⟨w.heap.size, 0, none⟩ = some (.int .i64 u) ∧ W.cell? ⟨w.heap.size, 1, none⟩ = some (.int .i64 t)) wb.drew := BX.out _ b0
  refine wpAnyH_take (i := 0) (v := ?tv1) rfl (by kernel_rfl) (by kernel_rfl) (by kernel_rfl) (fun _ _ _ h => h) (Or.inl ⟨by rfl, ?th1⟩) (by assumption) ?tr1
  case th1 => (intro w hSw; (try dsimp only at hSw); go_simp; all_goals (with_reducible rfl))
  simp only [Act.put, List.getElem_toArray, List.getElem_cons_zero, List.setIfInBounds_toArray, List.set_cons_zero, List.set_cons_succ]
  refine wpAnyH_take (i := 1) (v := ?tv2) rfl (by kernel_rfl) (by kernel_rfl) (by kernel_rfl) (fun _ _ _ h => h) (Or.inl ⟨by rfl, ?th2⟩) (by assumption) ?tr2
  case th2 => (intro w hSw; (try dsimp only at hSw); go_simp; all_goals (with_reducible rfl))
  simp only [Act.put, List.getElem_toArray, List.getElem_cons_zero, List.getElem_cons_succ, List.setIfInBounds_toArray, List.set_cons_zero, List.set_cons_succ]
  refine wpAnyH_take (i := 2) (v := ?tv3) rfl (by kernel_rfl) (by kernel_rfl) (by kernel_rfl) (fun _ _ _ h => h) (Or.inl ⟨by rfl, ?th3⟩) (by assumption) ?tr3
  case th3 => (intro w hSw; (try dsimp only at hSw); go_simp; all_goals (with_reducible rfl))
  simp only [Act.put, List.getElem_toArray, List.getElem_cons_zero, List.getElem_cons_succ, List.setIfInBounds_toArray, List.set_cons_zero, List.set_cons_succ]
  refine wpAnyH_take (i := 4) (v := ?tv4) rfl (by kernel_rfl) (by kernel_rfl) (by kernel_rfl) (fun _ _ _ h => h) (Or.inl ⟨by rfl, ?th4⟩) (by assumption) ?tr4
  case th4 => (intro w hSw; (try dsimp only at hSw); go_simp; all_goals (with_reducible rfl))
  simp only [Act.put, List.getElem_toArray, List.getElem_cons_zero, List.getElem_cons_succ, List.setIfInBounds_toArray, List.set_cons_zero, List.set_cons_succ]
  refine wpAnyH_take (i := 6) (v := ?tv5) rfl (by kernel_rfl) (by kernel_rfl) (by kernel_rfl) (fun _ _ _ h => h) (Or.inl ⟨by rfl, ?th5⟩) (by assumption) ?tr5
  case th5 => (intro w hSw; (try dsimp only at hSw); go_simp; all_goals (with_reducible rfl))
  simp only [Act.put, List.getElem_toArray, List.getElem_cons_zero, List.getElem_cons_succ, List.setIfInBounds_toArray, List.set_cons_zero, List.set_cons_succ]
  refine wpAnyH_take (i := 7) (v := ?tv6) rfl (by kernel_rfl) (by kernel_rfl) (by kernel_rfl) (fun _ _ _ h => h) (Or.inl ⟨by rfl, ?th6⟩) (by assumption) ?tr6
  case th6 => (intro w hSw; (try dsimp only at hSw); go_simp; all_goals (with_reducible rfl))
  simp only [Act.put, List.getElem_toArray, List.getElem_cons_zero, List.getElem_cons_succ, List.setIfInBounds_toArray, List.set_cons_zero, List.set_cons_succ]
  refine wpAnyH_ready (rs := [3, 8]) (by kernel_rfl) (by simp) ?_
  refine AllReadyH.cons rfl (fun K hK => ?_) (AllReadyH.cons rfl (fun K hK => ?_) AllReadyH.nil)
  · go_simp
    have b1 : Below (w.heap.size + 1) wb (wb.alloc (.cells (madeCells z2 ((X.length + 3) * 2)) 62)).drew := ((Below.refl _ wb).alloc (by omega) _).drew
    have o1 : OwnLk (wb.alloc (.cells (madeCells z2 ((X.length + 3) * 2)) 62)).drew (w.heap.size + 1) (.slice (some ⟨wb.heap.size, 0, none⟩) 0 (X.length + 3)) [] := (made_own wb (w.heap.size + 1) (X.length + 3) (by omega) (by unfold maxLen; omega)).keep fun _ _ => rfl
    have z1 : (wb.alloc (.cells (madeCells z2 ((X.length + 3) * 2)) 62)).drew.heap.size = w.heap.size + 2 := by simp [hwb]
    rw [hwb] at o1
    refine hK.out _ _ (BX.out _ b1) (fun hHeld => ?_)
    clear hK K
    generalize (wb.alloc (.cells (madeCells z2 ((X.length + 3) * 2)) 62)).drew = w1 at *
    refine wpAnyH_ready (rs := [5, 8]) (by kernel_rfl) (by simp) ?_
    refine AllReadyH.cons rfl (fun K hK => ?_) (AllReadyH.cons rfl (fun K hK => ?_) AllReadyH.nil)
    · refine step_append_lk (by rfl) _ _ (by rfl) (w.heap.size + 1) _ [] (by rfl) o1 a c X (by rfl) (HP.out _ b1) hc (by simp; omega) (by omega) ?_
      intro v2 w2 o2 g2 n2
      rw [List.nil_append] at o2
      have b2 : Below (w.heap.size + 1) wb w2 := b1.grown g2 (by omega) (fun k hk => (o1.lt k hk).1)
      refine hK.out _ _ (BX.out _ b2) (fun hHeld => ?_)
      clear hK K
      simp only [Act.put, List.getElem_toArray, List.getElem_cons_zero, List.getElem_cons_succ, List.setIfInBounds_toArray, List.set_cons_zero, List.set_cons_succ]
      refine wpAnyH_ready (rs := [8]) (by kernel_rfl) (by simp) ?_
      refine AllReadyH.cons rfl (fun K hK => ?_) AllReadyH.nil
      go_simp
      have b3 : Below (w.heap.size + 1) wb (w2.alloc (.cells #[.int .i64 u, .int .i64 t, .int .i64 u, .int .i64 t] 62)) := b2.alloc (by have := b2.size; omega) _
      have o3 := o2.keepAlloc (.cells #[.int .i64 u, .int .i64 t, .int .i64 u, .int .i64 t] 62)
      have p3 := two_at w2 u u t t
      refine hK.out _ _ (BX.out _ b3) (fun hHeld => ?_)
      clear hK K
      refine wpAnyH_ready (rs := [9]) (by kernel_rfl) (by simp) ?_
      refine AllReadyH.cons rfl (fun K hK => ?_) AllReadyH.nil
      refine step_append_lk (by rfl) _ _ (by rfl) (w.heap.size + 1) _ X (by rfl) o3 (some ⟨w2.heap.size, 0, none⟩) 2 [⟨u, t⟩, ⟨u, t⟩] (by rfl) p3 (by simp) (by simp; omega) (by have := b3.size; omega) ?_
      intro v9 w9 o9 g9 _
      have b9 : Below (w.heap.size + 1) wb w9 := b3.grown g9 (by have := b3.size; omega) (fun k hk => (o3.lt k hk).1)
      clear o2 o3 p3 g9 g2 b2 b3 o1 b1
      refine hK.out _ _ (BX.out _ b9) (fun hHeld => ?_)
      clear hK K
      simp only [Act.put, List.getElem_toArray, List.getElem_cons_zero, List.getElem_cons_succ, List.setIfInBounds_toArray, List.set_cons_zero, List.set_cons_succ]
      refine wpAnyH_take (i := 10) (v := ?tv7) rfl (by kernel_rfl) (by kernel_rfl) (by kernel_rfl) (fun _ _ _ h => h) (Or.inl ⟨by rfl, ?th7⟩) (by assumption) ?tr7
      case th7 => (intro w hSw; (try dsimp only at hSw); go_simp; all_goals (with_reducible rfl))
      simp only [Act.put, List.getElem_toArray, List.getElem_cons_zero, List.getElem_cons_succ, List.setIfInBounds_toArray, List.set_cons_zero, List.set_cons_succ]
      refine wpAnyH_done (by kernel_rfl) ?_ _
      refine NoPanic.normal ?_
      obtain ⟨g, cp, rfl, hcp⟩ := o9.some (by simp)
      have hl2 : (X ++ [(⟨u, t⟩ : Lk.Lo), ⟨u, t⟩]).length = X.length + 2 := by simp
      rw [hl2] at o9 hcp ⊢
      have O9 := hid (o9.lower (base' := w.heap.size) (by omega))
      have B9 : Hid (Below w.heap.size w w9) := B0.out.trans (b9.mono (by omega))
      have s0 : (0 : Int) ≤ (X.length : Int) := by omega
      have s1 : (X.length : Int) ≤ (cp : Int) := by omega
      clear o9 b9 hHeld hl2
      go_wp2_with fail
      go_ret
      exact ⟨g, cp, rfl, O9.out, B9.out⟩
    · go_simp
      have b2 : Below (w.heap.size + 1) wb (w1.alloc (.cells #[.int .i64 u, .int .i64 t, .int .i64 u, .int .i64 t] 62)) := b1.alloc (by have := b1.size; omega) _
      have o2 := o1.keepAlloc (.cells #[.int .i64 u, .int .i64 t, .int .i64 u, .int .i64 t] 62)
      have p2 := two_at w1 u u t t
      have z2' : (w1.alloc (.cells #[.int .i64 u, .int .i64 t, .int .i64 u, .int .i64 t] 62)).heap.size = w.heap.size + 3 := by simp [z1]
      rw [z1] at p2
      refine hK.out _ _ (BX.out _ b2) (fun hHeld => ?_)
      clear hK K
      generalize w1.alloc (.cells #[.int .i64 u, .int .i64 t, .int .i64 u, .int .i64 t] 62) = w2 at *
      refine wpAnyH_ready (rs := [5]) (by kernel_rfl) (by simp) ?_
      refine AllReadyH.cons rfl (fun K hK => ?_) AllReadyH.nil
      refine step_append_lk (by rfl) _ _ (by rfl) (w.heap.size + 1) _ [] (by rfl) o2 a c X (by rfl) (HP.out _ b2) hc (by simp; omega) (by omega) ?_
      intro v3 w3 o3 g3 n3
      rw [List.nil_append] at o3
      have b3 : Below (w.heap.size + 1) wb w3 := b2.grown g3 (by omega) (fun k hk => (o2.lt k hk).1)
      have p3 := two_grown p2 (by omega) g3 (by intro e; injection e with e; dsimp only at e; omega)
      refine hK.out _ _ (BX.out _ b3) (fun hHeld => ?_)
      clear hK K
      simp only [Act.put, List.getElem_toArray, List.getElem_cons_zero, List.getElem_cons_succ, List.setIfInBounds_toArray, List.set_cons_zero, List.set_cons_succ]
      refine wpAnyH_ready (rs := [9]) (by kernel_rfl) (by simp) ?_
      refine AllReadyH.cons rfl (fun K hK => ?_) AllReadyH.nil
      refine step_append_lk (by rfl) _ _ (by rfl) (w.heap.size + 1) _ X (by rfl) o3 (some ⟨w.heap.size + 2, 0, none⟩) 2 [⟨u, t⟩, ⟨u, t⟩] (by rfl) p3 (by simp) (by simp; omega) (by have := b3.size; omega) ?_
      intro v9 w9 o9 g9 _
      have b9 : Below (w.heap.size + 1) wb w9 := b3.grown g9 (by have := b3.size; omega) (fun k hk => (o3.lt k hk).1)
      clear o2 o3 p3 p2 g9 g3 b2 b3 o1 b1
      refine hK.out _ _ (BX.out _ b9) (fun hHeld => ?_)
      clear hK K
      simp only [Act.put, List.getElem_toArray, List.getElem_cons_zero, List.getElem_cons_succ, List.setIfInBounds_toArray, List.set_cons_zero, List.set_cons_succ]
      refine wpAnyH_take (i := 10) (v := ?tv8) rfl (by kernel_rfl) (by kernel_rfl) (by kernel_rfl) (fun _ _ _ h => h) (Or.inl ⟨by rfl, ?th8⟩) (by assumption) ?tr8
      case th8 => (intro w hSw; (try dsimp only at hSw); go_simp; all_goals (with_reducible rfl))
      simp only [Act.put, List.getElem_toArray, List.getElem_cons_zero, List.getElem_cons_succ, List.setIfInBounds_toArray, List.set_cons_zero, List.set_cons_succ]
      refine wpAnyH_done (by kernel_rfl) ?_ _
      refine NoPanic.normal ?_
      obtain ⟨g, cp, rfl, hcp⟩ := o9.some (by simp)
      have hl2 : (X ++ [(⟨u, t⟩ : Lk.Lo), ⟨u, t⟩]).length = X.length + 2 := by simp
      rw [hl2] at o9 hcp ⊢
      have O9 := hid (o9.lower (base' := w.heap.size) (by omega))
      have B9 : Hid (Below w.heap.size w w9) := B0.out.trans (b9.mono (by omega))
      have s0 : (0 : Int) ≤ (X.length : Int) := by omega
      have s1 : (X.length : Int) ≤ (cp : Int) := by omega
      clear o9 b9 hHeld hl2
      go_wp2_with fail
      go_ret
      exact ⟨g, cp, rfl, O9.out, B9.out⟩
  · go_simp
    have b1 : Below (w.heap.size + 1) wb (wb.alloc (.cells #[.int .i64 u, .int .i64 t, .int .i64 u, .int .i64 t] 62)).drew := ((Below.refl _ wb).alloc (by omega) _).drew
    have p1 : LkAt (wb.alloc (.cells #[.int .i64 u, .int .i64 t, .int .i64 u, .int .i64 t] 62)).drew (some ⟨wb.heap.size, 0, none⟩) [⟨u, t⟩, ⟨u, t⟩] := (two_at wb u u t t).drew
    have z1 : (wb.alloc (.cells #[.int .i64 u, .int .i64 t, .int .i64 u, .int .i64 t] 62)).drew.heap.size = w.heap.size + 2 := by simp [hwb]
    rw [hwb] at p1
    refine hK.out _ _ (BX.out _ b1) (fun hHeld => ?_)
    clear hK K
    generalize (wb.alloc (.cells #[.int .i64 u, .int .i64 t, .int .i64 u, .int .i64 t] 62)).drew = w1 at *
    refine wpAnyH_ready (rs := [3]) (by kernel_rfl) (by simp) ?_
    refine AllReadyH.cons rfl (fun K hK => ?_) AllReadyH.nil
    go_simp
    have b2 : Below (w.heap.size + 1) wb (w1.alloc (.cells (madeCells z2 ((X.length + 3) * 2)) 62)) := b1.alloc (by omega) _
    have o2 : OwnLk (w1.alloc (.cells (madeCells z2 ((X.length + 3) * 2)) 62)) (w.heap.size + 1) (.slice (some ⟨w1.heap.size, 0, none⟩) 0 (X.length + 3)) [] := made_own w1 (w.heap.size + 1) (X.length + 3) (by omega) (by unfold maxLen; omega)
    have p2 := p1.below (bx w1 (.cells (madeCells z2 ((X.length + 3) * 2)) 62))
    have z2' : (w1.alloc (.cells (madeCells z2 ((X.length + 3) * 2)) 62)).heap.size = w.heap.size + 3 := by simp [z1]
    rw [z1] at o2
    refine hK.out _ _ (BX.out _ b2) (fun hHeld => ?_)
    clear hK K
    generalize w1.alloc (.cells (madeCells z2 ((X.length + 3) * 2)) 62) = w2 at *
    refine wpAnyH_ready (rs := [5]) (by kernel_rfl) (by simp) ?_
    refine AllReadyH.cons rfl (fun K hK => ?_) AllReadyH.nil
    refine step_append_lk (by rfl) _ _ (by rfl) (w.heap.size + 1) _ [] (by rfl) o2 a c X (by rfl) (HP.out _ b2) hc (by simp; omega) (by omega) ?_
    intro v3 w3 o3 g3 n3
    rw [List.nil_append] at o3
    have b3 : Below (w.heap.size + 1) wb w3 := b2.grown g3 (by omega) (fun k hk => (o2.lt k hk).1)
    have p3 := two_grown p2 (by omega) g3 (by intro e; injection e with e; dsimp only at e; omega)
    refine hK.out _ _ (BX.out _ b3) (fun hHeld => ?_)
    clear hK K
    simp only [Act.put, List.getElem_toArray, List.getElem_cons_zero, List.getElem_cons_succ, List.setIfInBounds_toArray, List.set_cons_zero, List.set_cons_succ]
    refine wpAnyH_ready (rs := [9]) (by kernel_rfl) (by simp) ?_
    refine AllReadyH.cons rfl (fun K hK => ?_) AllReadyH.nil
    refine step_append_lk (by rfl) _ _ (by rfl) (w.heap.size + 1) _ X (by rfl) o3 (some ⟨w.heap.size + 1, 0, none⟩) 2 [⟨u, t⟩, ⟨u, t⟩] (by rfl) p3 (by simp) (by simp; omega) (by have := b3.size; omega) ?_
    intro v9 w9 o9 g9 _
    have b9 : Below (w.heap.size + 1) wb w9 := b3.grown g9 (by have := b3.size; omega) (fun k hk => (o3.lt k hk).1)
    clear o2 o3 p3 p2 p1 g9 g3 b2 b3 b1
    refine hK.out _ _ (BX.out _ b9) (fun hHeld => ?_)
    clear hK K
    simp only [Act.put, List.getElem_toArray, List.getElem_cons_zero, List.getElem_cons_succ, List.setIfInBounds_toArray, List.set_cons_zero, List.set_cons_succ]
    refine wpAnyH_take (i := 10) (v := ?tv9) rfl (by kernel_rfl) (by kernel_rfl) (by kernel_rfl) (fun _ _ _ h => h) (Or.inl ⟨by rfl, ?th9⟩) (by assumption) ?tr9
    case th9 => (intro w hSw; (try dsimp only at hSw); go_simp; all_goals (with_reducible rfl))
    simp only [Act.put, List.getElem_toArray, List.getElem_cons_zero, List.getElem_cons_succ, List.setIfInBounds_toArray, List.set_cons_zero, List.set_cons_succ]
    refine wpAnyH_done (by kernel_rfl) ?_ _
    refine NoPanic.normal ?_
    obtain ⟨g, cp, rfl, hcp⟩ := o9.some (by simp)
    have hl2 : (X ++ [(⟨u, t⟩ : Lk.Lo), ⟨u, t⟩]).length = X.length + 2 := by simp
    rw [hl2] at o9 hcp ⊢
    have O9 := hid (o9.lower (base' := w.heap.size) (by omega))
    have B9 : Hid (Below w.heap.size w w9) := B0.out.trans (b9.mono (by omega))
    have s0 : (0 : Int) ≤ (X.length : Int) := by omega
    have s1 : (X.length : Int) ≤ (cp : Int) := by omega
    clear o9 b9 hHeld hl2
    go_wp2_with fail
    go_ret
    exact ⟨g, cp, rfl, O9.out, B9.out⟩

end Go.Proofs.Ytjoaedkgjnchoan.PLock
