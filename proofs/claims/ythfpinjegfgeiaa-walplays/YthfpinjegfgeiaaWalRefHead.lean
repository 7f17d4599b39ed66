/- The document's own log: headOf, anchorSector, anchored, walked. -/
import Derived.Test.YthfpinjegfgeiaaWalEq
import Derived.Test.YthfpinjegfgeiaaRef
import Derived.Test.YthfpinjegfgeiaaFoldSays
import Derived.Test.YthfpinjegfgeiaaSectDeed
import Derived.OrdersHeld
import Derived.Deep.RegionHeld3
namespace Go.Proofs.Ythfpinjegfgeiaa
open Go Go.RowKit
set_option maxRecDepth 100000

theorem ref_str_one (W : World) (b : Nat) (m : UInt8) (hx : W.cell? ⟨b, 0, none⟩ = some (.int .u8 (m.toNat : Int))) :
    (convert 72 9 (.slice (some ⟨b, 0, none⟩) 1 1)).run Try.prog W = .ok (.string ⟨#[m]⟩) W := by
  have h := PCode.conv_one W b (m.toNat : Int) hx (by omega) (by have := m.toNat_lt; omega)
  rw [Int.toNat_natCast, UInt8.ofNat_toNat] at h
  exact h

set_option maxHeartbeats 2000000 in
theorem headOf_any (m : UInt8) (e n : Int) (w : World) (he : Wl.I64 e) (hn : Wl.I64 n) :
    Calls Try.prog 81 #[.int .u8 (m.toNat : Int), .int .i64 e, .int .i64 n] w fun r w' => r = .returned (.string (ba (Wl.headB m e n))) ∧ Below w.heap.size w w' := by
  have H1 := fun W => PCode.refInt_any e W he.1 he.2
  have H2 := fun W => PCode.refInt_any n W hn.1 hn.2
  simp only [ba_int] at H1 H2
  have H1' := hid H1
  have H2' := hid H2
  have l1 := (Wl.intB_len e he).2
  have l2 := (Wl.intB_len n hn).2
  rw [← ba_size] at l1 l2
  have HE : Hid ((⟨#[m]⟩ : ByteArray) ++ ba (Wl.intB e) ++ ba (Wl.intB n) = ba (Wl.headB m e n)) := by
    show _ = _
    apply bytes_eq
    rw [app_list, app_list, ba_list, ba_list, ba_list]
    simp [Wl.headB]
  have s0 : (⟨#[m]⟩ : ByteArray).size = 1 := rfl
  have hcv := fun W b hx => ref_str_one W b m hx
  clear H1 H2
  generalize ba (Wl.intB e) = x at *
  generalize ba (Wl.intB n) = y at *
  generalize (⟨#[m]⟩ : ByteArray) = q at *
  have s1 : (q ++ x).size = q.size + x.size := ByteArray.size_append
  have z1 : ¬ (9223372036854775807 < q.size + x.size) := by omega
  have z2 : ¬ (9223372036854775807 < q.size + x.size + y.size) := by omega
  clear s0 s1 l1 l2
  go_enter Try.func81, Try.ntmps81
  go_wp2_with fail
  refine wp_region_noPanic ?_
  refine wp_region_any (by kernel_rfl) ?_
  have b0 : Hid (Below w.heap.size w w.drew) := (Below.refl _ w).drew
  obtain ⟨v0, hv0⟩ : ∃ v, v = w.drew := ⟨_, rfl⟩
  rw [← hv0] at b0
  change wpAny _ _ _ _ _ _ _ w.drew
  rw [← hv0]
  clear hv0
  refine wpAny_of_held (S := fun _ => True) _ _ _ _ ?_
  have hHeld : (fun _ : World => True) v0 := trivial
  refine wpAnyH_take (i := 0) (v := ?tv1) rfl (by kernel_rfl) (by kernel_rfl) (by kernel_rfl) (fun _ _ _ h => h) (Or.inl ⟨by rfl, ?th1⟩) (by assumption) ?tr1
  case th1 => (intro w hSw; (try dsimp only at hSw); go_simp; all_goals (with_reducible rfl))
  simp only [Act.put, List.getElem_toArray, List.getElem_cons_zero, List.setIfInBounds_toArray, List.set_cons_zero, List.set_cons_succ]
  refine wpAnyH_take (i := 3) (v := ?tv2) rfl (by kernel_rfl) (by kernel_rfl) (by kernel_rfl) (fun _ _ _ h => h) (Or.inl ⟨by rfl, ?th2⟩) (by assumption) ?tr2
  case th2 => (intro w hSw; (try dsimp only at hSw); go_simp; all_goals (with_reducible rfl))
  simp only [Act.put, List.getElem_toArray, List.getElem_cons_zero, List.getElem_cons_succ, List.setIfInBounds_toArray, List.set_cons_zero, List.set_cons_succ]
  refine wpAnyH_take (i := 6) (v := ?tv3) rfl (by kernel_rfl) (by kernel_rfl) (by kernel_rfl) (fun _ _ _ h => h) (Or.inl ⟨by rfl, ?th3⟩) (by assumption) ?tr3
  case th3 => (intro w hSw; (try dsimp only at hSw); go_simp; all_goals (with_reducible rfl))
  simp only [Act.put, List.getElem_toArray, List.getElem_cons_zero, List.getElem_cons_succ, List.setIfInBounds_toArray, List.set_cons_zero, List.set_cons_succ]
  refine wpAnyH_ready (rs := [1, 4]) (by kernel_rfl) (by simp) ?_
  refine AllReadyH.cons rfl (fun K hK => ?_) (AllReadyH.cons rfl (fun K hK => ?_) AllReadyH.nil)
  · skip
    go_simp
    have b1 := hid (b0.out.alloc b0.out.size (.cells #[.int .u8 (m.toNat : Int)] 5))
    have c1 : (v0.alloc (.cells #[.int .u8 (m.toNat : Int)] 5)).heap[v0.heap.size]? = some (.cells #[.int .u8 (m.toNat : Int)] 5 (0, 0)) := heap_alloc_new v0 _
    refine hK.out _ _ trivial (fun hHeld => ?_)
    clear hK K
    obtain ⟨v1, hv1⟩ : ∃ v, v = v0.alloc (.cells #[.int .u8 (m.toNat : Int)] 5) := ⟨_, rfl⟩
    obtain ⟨g1, hg1⟩ : ∃ g, g = v0.heap.size := ⟨_, rfl⟩
    rw [← hv1, ← hg1] at c1
    rw [← hv1] at b1
    rw [← hv1, ← hg1]
    clear hv1 hg1
    refine wpAnyH_ready (rs := [2, 4]) (by kernel_rfl) (by simp) ?_
    refine AllReadyH.cons rfl (fun K hK => ?_) (AllReadyH.cons rfl (fun K hK => ?_) AllReadyH.nil)
    · skip
      have e2 := hcv v1 g1 (by rw [cell_of_row v1 _ _ _ _ _ c1]; rfl)
      go_simp
      refine hK.out _ _ trivial (fun hHeld => ?_)
      clear hK K e2
      refine wpAnyH_ready (rs := [4]) (by kernel_rfl) (by simp) ?_
      refine AllReadyH.cons rfl (fun K hK => ?_) AllReadyH.nil
      go_simp
      refine (H1'.out _).mono ?_
      rintro e3 v3 ⟨rfl, hb3⟩
      have b3 := hid (b1.out.trans (hb3.mono b1.out.size))
      refine hK.out _ _ trivial (fun hHeld => ?_)
      clear hK K hb3
      refine wpAnyH_take (i := 5) (v := ?tv4) rfl (by kernel_rfl) (by kernel_rfl) (by kernel_rfl) (fun _ _ _ h => h) (Or.inl ⟨by rfl, ?th4⟩) (by assumption) ?tr4
      case th4 => (intro w hSw; (try dsimp only at hSw); go_simp; all_goals (with_reducible rfl))
      simp only [Act.put, List.getElem_toArray, List.getElem_cons_zero, List.getElem_cons_succ, List.setIfInBounds_toArray, List.set_cons_zero, List.set_cons_succ]
      refine wpAnyH_ready (rs := [7]) (by kernel_rfl) (by simp) ?_
      refine AllReadyH.cons rfl (fun K hK => ?_) AllReadyH.nil
      go_simp
      refine (H2'.out _).mono ?_
      rintro e4 v4 ⟨rfl, hb4⟩
      have b4 := hid (b3.out.trans (hb4.mono b3.out.size))
      refine hK.out _ _ trivial (fun hHeld => ?_)
      clear hK K hb4
      refine wpAnyH_take (i := 8) (v := ?tv5) rfl (by kernel_rfl) (by kernel_rfl) (by kernel_rfl) (fun _ _ _ h => h) (Or.inl ⟨by rfl, ?th5⟩) (by assumption) ?tr5
      case th5 => (intro w hSw; (try dsimp only at hSw); go_simp; all_goals (with_reducible rfl))
      simp only [Act.put, List.getElem_toArray, List.getElem_cons_zero, List.getElem_cons_succ, List.setIfInBounds_toArray, List.set_cons_zero, List.set_cons_succ]
      refine wpAnyH_take (i := 9) (v := ?tv6) rfl (by kernel_rfl) (by kernel_rfl) (by kernel_rfl) (fun _ _ _ h => h) (Or.inl ⟨by rfl, ?th6⟩) (by assumption) ?tr6
      case th6 => (intro w hSw; (try dsimp only at hSw); go_simp; all_goals (with_reducible rfl))
      simp only [Act.put, List.getElem_toArray, List.getElem_cons_zero, List.getElem_cons_succ, List.setIfInBounds_toArray, List.set_cons_zero, List.set_cons_succ]
      refine wpAnyH_done (by kernel_rfl) ?_ _
      refine NoPanic.normal ?_
      go_wp2_with fail
      go_ret
      exact ⟨congrArg (fun z => Ending.returned (.string z)) HE.out, b4.out⟩
    · skip
      go_simp
      refine (H1'.out _).mono ?_
      rintro e5 v5 ⟨rfl, hb5⟩
      have b5 := hid (b1.out.trans (hb5.mono b1.out.size))
      have c5 := (hb5.block g1 (lt_of_heap c1)).trans c1
      refine hK.out _ _ trivial (fun hHeld => ?_)
      clear hK K hb5
      refine wpAnyH_ready (rs := [2, 7]) (by kernel_rfl) (by simp) ?_
      refine AllReadyH.cons rfl (fun K hK => ?_) (AllReadyH.cons rfl (fun K hK => ?_) AllReadyH.nil)
      · skip
        have e6 := hcv v5 g1 (by rw [cell_of_row v5 _ _ _ _ _ c5]; rfl)
        go_simp
        refine hK.out _ _ trivial (fun hHeld => ?_)
        clear hK K e6
        refine wpAnyH_take (i := 5) (v := ?tv7) rfl (by kernel_rfl) (by kernel_rfl) (by kernel_rfl) (fun _ _ _ h => h) (Or.inl ⟨by rfl, ?th7⟩) (by assumption) ?tr7
        case th7 => (intro w hSw; (try dsimp only at hSw); go_simp; all_goals (with_reducible rfl))
        simp only [Act.put, List.getElem_toArray, List.getElem_cons_zero, List.getElem_cons_succ, List.setIfInBounds_toArray, List.set_cons_zero, List.set_cons_succ]
        refine wpAnyH_ready (rs := [7]) (by kernel_rfl) (by simp) ?_
        refine AllReadyH.cons rfl (fun K hK => ?_) AllReadyH.nil
        go_simp
        refine (H2'.out _).mono ?_
        rintro e7 v7 ⟨rfl, hb7⟩
        have b7 := hid (b5.out.trans (hb7.mono b5.out.size))
        refine hK.out _ _ trivial (fun hHeld => ?_)
        clear hK K hb7
        refine wpAnyH_take (i := 8) (v := ?tv8) rfl (by kernel_rfl) (by kernel_rfl) (by kernel_rfl) (fun _ _ _ h => h) (Or.inl ⟨by rfl, ?th8⟩) (by assumption) ?tr8
        case th8 => (intro w hSw; (try dsimp only at hSw); go_simp; all_goals (with_reducible rfl))
        simp only [Act.put, List.getElem_toArray, List.getElem_cons_zero, List.getElem_cons_succ, List.setIfInBounds_toArray, List.set_cons_zero, List.set_cons_succ]
        refine wpAnyH_take (i := 9) (v := ?tv9) rfl (by kernel_rfl) (by kernel_rfl) (by kernel_rfl) (fun _ _ _ h => h) (Or.inl ⟨by rfl, ?th9⟩) (by assumption) ?tr9
        case th9 => (intro w hSw; (try dsimp only at hSw); go_simp; all_goals (with_reducible rfl))
        simp only [Act.put, List.getElem_toArray, List.getElem_cons_zero, List.getElem_cons_succ, List.setIfInBounds_toArray, List.set_cons_zero, List.set_cons_succ]
        refine wpAnyH_done (by kernel_rfl) ?_ _
        refine NoPanic.normal ?_
        go_wp2_with fail
        go_ret
        exact ⟨congrArg (fun z => Ending.returned (.string z)) HE.out, b7.out⟩
      · skip
        go_simp
        refine (H2'.out _).mono ?_
        rintro e8 v8 ⟨rfl, hb8⟩
        have b8 := hid (b5.out.trans (hb8.mono b5.out.size))
        have c8 := (hb8.block g1 (lt_of_heap c5)).trans c5
        refine hK.out _ _ trivial (fun hHeld => ?_)
        clear hK K hb8
        refine wpAnyH_ready (rs := [2]) (by kernel_rfl) (by simp) ?_
        refine AllReadyH.cons rfl (fun K hK => ?_) AllReadyH.nil
        have e9 := hcv v8 g1 (by rw [cell_of_row v8 _ _ _ _ _ c8]; rfl)
        go_simp
        refine hK.out _ _ trivial (fun hHeld => ?_)
        clear hK K e9
        refine wpAnyH_take (i := 5) (v := ?tv10) rfl (by kernel_rfl) (by kernel_rfl) (by kernel_rfl) (fun _ _ _ h => h) (Or.inl ⟨by rfl, ?th10⟩) (by assumption) ?tr10
        case th10 => (intro w hSw; (try dsimp only at hSw); go_simp; all_goals (with_reducible rfl))
        simp only [Act.put, List.getElem_toArray, List.getElem_cons_zero, List.getElem_cons_succ, List.setIfInBounds_toArray, List.set_cons_zero, List.set_cons_succ]
        refine wpAnyH_take (i := 8) (v := ?tv11) rfl (by kernel_rfl) (by kernel_rfl) (by kernel_rfl) (fun _ _ _ h => h) (Or.inl ⟨by rfl, ?th11⟩) (by assumption) ?tr11
        case th11 => (intro w hSw; (try dsimp only at hSw); go_simp; all_goals (with_reducible rfl))
        simp only [Act.put, List.getElem_toArray, List.getElem_cons_zero, List.getElem_cons_succ, List.setIfInBounds_toArray, List.set_cons_zero, List.set_cons_succ]
        refine wpAnyH_take (i := 9) (v := ?tv12) rfl (by kernel_rfl) (by kernel_rfl) (by kernel_rfl) (fun _ _ _ h => h) (Or.inl ⟨by rfl, ?th12⟩) (by assumption) ?tr12
        case th12 => (intro w hSw; (try dsimp only at hSw); go_simp; all_goals (with_reducible rfl))
        simp only [Act.put, List.getElem_toArray, List.getElem_cons_zero, List.getElem_cons_succ, List.setIfInBounds_toArray, List.set_cons_zero, List.set_cons_succ]
        refine wpAnyH_done (by kernel_rfl) ?_ _
        refine NoPanic.normal ?_
        go_wp2_with fail
        go_ret
        exact ⟨congrArg (fun z => Ending.returned (.string z)) HE.out, b8.out⟩
  · skip
    go_simp
    refine (H1'.out _).mono ?_
    rintro e10 v10 ⟨rfl, hb10⟩
    have b10 := hid (b0.out.trans (hb10.mono b0.out.size))
    refine hK.out _ _ trivial (fun hHeld => ?_)
    clear hK K hb10
    refine wpAnyH_ready (rs := [1, 7]) (by kernel_rfl) (by simp) ?_
    refine AllReadyH.cons rfl (fun K hK => ?_) (AllReadyH.cons rfl (fun K hK => ?_) AllReadyH.nil)
    · skip
      go_simp
      have b11 := hid (b10.out.alloc b10.out.size (.cells #[.int .u8 (m.toNat : Int)] 5))
      have c11 : (v10.alloc (.cells #[.int .u8 (m.toNat : Int)] 5)).heap[v10.heap.size]? = some (.cells #[.int .u8 (m.toNat : Int)] 5 (0, 0)) := heap_alloc_new v10 _
      refine hK.out _ _ trivial (fun hHeld => ?_)
      clear hK K
      obtain ⟨v11, hv11⟩ : ∃ v, v = v10.alloc (.cells #[.int .u8 (m.toNat : Int)] 5) := ⟨_, rfl⟩
      obtain ⟨g11, hg11⟩ : ∃ g, g = v10.heap.size := ⟨_, rfl⟩
      rw [← hv11, ← hg11] at c11
      rw [← hv11] at b11
      rw [← hv11, ← hg11]
      clear hv11 hg11
      refine wpAnyH_ready (rs := [2, 7]) (by kernel_rfl) (by simp) ?_
      refine AllReadyH.cons rfl (fun K hK => ?_) (AllReadyH.cons rfl (fun K hK => ?_) AllReadyH.nil)
      · skip
        have e12 := hcv v11 g11 (by rw [cell_of_row v11 _ _ _ _ _ c11]; rfl)
        go_simp
        refine hK.out _ _ trivial (fun hHeld => ?_)
        clear hK K e12
        refine wpAnyH_take (i := 5) (v := ?tv13) rfl (by kernel_rfl) (by kernel_rfl) (by kernel_rfl) (fun _ _ _ h => h) (Or.inl ⟨by rfl, ?th13⟩) (by assumption) ?tr13
        case th13 => (intro w hSw; (try dsimp only at hSw); go_simp; all_goals (with_reducible rfl))
        simp only [Act.put, List.getElem_toArray, List.getElem_cons_zero, List.getElem_cons_succ, List.setIfInBounds_toArray, List.set_cons_zero, List.set_cons_succ]
        refine wpAnyH_ready (rs := [7]) (by kernel_rfl) (by simp) ?_
        refine AllReadyH.cons rfl (fun K hK => ?_) AllReadyH.nil
        go_simp
        refine (H2'.out _).mono ?_
        rintro e13 v13 ⟨rfl, hb13⟩
        have b13 := hid (b11.out.trans (hb13.mono b11.out.size))
        refine hK.out _ _ trivial (fun hHeld => ?_)
        clear hK K hb13
        refine wpAnyH_take (i := 8) (v := ?tv14) rfl (by kernel_rfl) (by kernel_rfl) (by kernel_rfl) (fun _ _ _ h => h) (Or.inl ⟨by rfl, ?th14⟩) (by assumption) ?tr14
        case th14 => (intro w hSw; (try dsimp only at hSw); go_simp; all_goals (with_reducible rfl))
        simp only [Act.put, List.getElem_toArray, List.getElem_cons_zero, List.getElem_cons_succ, List.setIfInBounds_toArray, List.set_cons_zero, List.set_cons_succ]
        refine wpAnyH_take (i := 9) (v := ?tv15) rfl (by kernel_rfl) (by kernel_rfl) (by kernel_rfl) (fun _ _ _ h => h) (Or.inl ⟨by rfl, ?th15⟩) (by assumption) ?tr15
        case th15 => (intro w hSw; (try dsimp only at hSw); go_simp; all_goals (with_reducible rfl))
        simp only [Act.put, List.getElem_toArray, List.getElem_cons_zero, List.getElem_cons_succ, List.setIfInBounds_toArray, List.set_cons_zero, List.set_cons_succ]
        refine wpAnyH_done (by kernel_rfl) ?_ _
        refine NoPanic.normal ?_
        go_wp2_with fail
        go_ret
        exact ⟨congrArg (fun z => Ending.returned (.string z)) HE.out, b13.out⟩
      · skip
        go_simp
        refine (H2'.out _).mono ?_
        rintro e14 v14 ⟨rfl, hb14⟩
        have b14 := hid (b11.out.trans (hb14.mono b11.out.size))
        have c14 := (hb14.block g11 (lt_of_heap c11)).trans c11
        refine hK.out _ _ trivial (fun hHeld => ?_)
        clear hK K hb14
        refine wpAnyH_ready (rs := [2]) (by kernel_rfl) (by simp) ?_
        refine AllReadyH.cons rfl (fun K hK => ?_) AllReadyH.nil
        have e15 := hcv v14 g11 (by rw [cell_of_row v14 _ _ _ _ _ c14]; rfl)
        go_simp
        refine hK.out _ _ trivial (fun hHeld => ?_)
        clear hK K e15
        refine wpAnyH_take (i := 5) (v := ?tv16) rfl (by kernel_rfl) (by kernel_rfl) (by kernel_rfl) (fun _ _ _ h => h) (Or.inl ⟨by rfl, ?th16⟩) (by assumption) ?tr16
        case th16 => (intro w hSw; (try dsimp only at hSw); go_simp; all_goals (with_reducible rfl))
        simp only [Act.put, List.getElem_toArray, List.getElem_cons_zero, List.getElem_cons_succ, List.setIfInBounds_toArray, List.set_cons_zero, List.set_cons_succ]
        refine wpAnyH_take (i := 8) (v := ?tv17) rfl (by kernel_rfl) (by kernel_rfl) (by kernel_rfl) (fun _ _ _ h => h) (Or.inl ⟨by rfl, ?th17⟩) (by assumption) ?tr17
        case th17 => (intro w hSw; (try dsimp only at hSw); go_simp; all_goals (with_reducible rfl))
        simp only [Act.put, List.getElem_toArray, List.getElem_cons_zero, List.getElem_cons_succ, List.setIfInBounds_toArray, List.set_cons_zero, List.set_cons_succ]
        refine wpAnyH_take (i := 9) (v := ?tv18) rfl (by kernel_rfl) (by kernel_rfl) (by kernel_rfl) (fun _ _ _ h => h) (Or.inl ⟨by rfl, ?th18⟩) (by assumption) ?tr18
        case th18 => (intro w hSw; (try dsimp only at hSw); go_simp; all_goals (with_reducible rfl))
        simp only [Act.put, List.getElem_toArray, List.getElem_cons_zero, List.getElem_cons_succ, List.setIfInBounds_toArray, List.set_cons_zero, List.set_cons_succ]
        refine wpAnyH_done (by kernel_rfl) ?_ _
        refine NoPanic.normal ?_
        go_wp2_with fail
        go_ret
        exact ⟨congrArg (fun z => Ending.returned (.string z)) HE.out, b14.out⟩
    · skip
      go_simp
      refine (H2'.out _).mono ?_
      rintro e16 v16 ⟨rfl, hb16⟩
      have b16 := hid (b10.out.trans (hb16.mono b10.out.size))
      refine hK.out _ _ trivial (fun hHeld => ?_)
      clear hK K hb16
      refine wpAnyH_ready (rs := [1]) (by kernel_rfl) (by simp) ?_
      refine AllReadyH.cons rfl (fun K hK => ?_) AllReadyH.nil
      go_simp
      have b17 := hid (b16.out.alloc b16.out.size (.cells #[.int .u8 (m.toNat : Int)] 5))
      have c17 : (v16.alloc (.cells #[.int .u8 (m.toNat : Int)] 5)).heap[v16.heap.size]? = some (.cells #[.int .u8 (m.toNat : Int)] 5 (0, 0)) := heap_alloc_new v16 _
      refine hK.out _ _ trivial (fun hHeld => ?_)
      clear hK K
      obtain ⟨v17, hv17⟩ : ∃ v, v = v16.alloc (.cells #[.int .u8 (m.toNat : Int)] 5) := ⟨_, rfl⟩
      obtain ⟨g17, hg17⟩ : ∃ g, g = v16.heap.size := ⟨_, rfl⟩
      rw [← hv17, ← hg17] at c17
      rw [← hv17] at b17
      rw [← hv17, ← hg17]
      clear hv17 hg17
      refine wpAnyH_ready (rs := [2]) (by kernel_rfl) (by simp) ?_
      refine AllReadyH.cons rfl (fun K hK => ?_) AllReadyH.nil
      have e18 := hcv v17 g17 (by rw [cell_of_row v17 _ _ _ _ _ c17]; rfl)
      go_simp
      refine hK.out _ _ trivial (fun hHeld => ?_)
      clear hK K e18
      refine wpAnyH_take (i := 5) (v := ?tv19) rfl (by kernel_rfl) (by kernel_rfl) (by kernel_rfl) (fun _ _ _ h => h) (Or.inl ⟨by rfl, ?th19⟩) (by assumption) ?tr19
      case th19 => (intro w hSw; (try dsimp only at hSw); go_simp; all_goals (with_reducible rfl))
      simp only [Act.put, List.getElem_toArray, List.getElem_cons_zero, List.getElem_cons_succ, List.setIfInBounds_toArray, List.set_cons_zero, List.set_cons_succ]
      refine wpAnyH_take (i := 8) (v := ?tv20) rfl (by kernel_rfl) (by kernel_rfl) (by kernel_rfl) (fun _ _ _ h => h) (Or.inl ⟨by rfl, ?th20⟩) (by assumption) ?tr20
      case th20 => (intro w hSw; (try dsimp only at hSw); go_simp; all_goals (with_reducible rfl))
      simp only [Act.put, List.getElem_toArray, List.getElem_cons_zero, List.getElem_cons_succ, List.setIfInBounds_toArray, List.set_cons_zero, List.set_cons_succ]
      refine wpAnyH_take (i := 9) (v := ?tv21) rfl (by kernel_rfl) (by kernel_rfl) (by kernel_rfl) (fun _ _ _ h => h) (Or.inl ⟨by rfl, ?th21⟩) (by assumption) ?tr21
      case th21 => (intro w hSw; (try dsimp only at hSw); go_simp; all_goals (with_reducible rfl))
      simp only [Act.put, List.getElem_toArray, List.getElem_cons_zero, List.getElem_cons_succ, List.setIfInBounds_toArray, List.set_cons_zero, List.set_cons_succ]
      refine wpAnyH_done (by kernel_rfl) ?_ _
      refine NoPanic.normal ?_
      go_wp2_with fail
      go_ret
      exact ⟨congrArg (fun z => Ending.returned (.string z)) HE.out, b17.out⟩

/-! ### anchorSector -/
theorem anchorSector_any (e : Int) (w : World) (he : Wl.I64 e) :
    Calls Try.prog 80 #[.int .i64 e] w fun r w' => r = .returned (.string (anchorB e)) ∧ Below w.heap.size w w' := by
  have H1 := fun W => PCode.refInt_any e W he.1 he.2
  have l1 := (Wl.intB_len e he).2
  have H2 := fun W => PFold.refPut_fits (ba (Wl.intB e)) W (by rw [ba_size]; omega)
  simp only [ba_int] at H1
  rw [fold_put] at H2
  have l2 := sumF_len (Wl.intB e)
  have H3 := fun W => blank_any (63 - (Wl.sumF (Wl.intB e)).length) (by omega) W
  have H1' := hid H1
  have H2' := hid H2
  have HE : Hid ((⟨#[3]⟩ : ByteArray) ++ ba (Wl.sumF (Wl.intB e)) ++ zeros (63 - (Wl.sumF (Wl.intB e)).length) = anchorB e) := by
    show _ = _
    apply bytes_eq
    unfold anchorB pad
    rw [app_list, app_list, app_list, ba_list, ba_list, ba_size, List.length_cons]
    rw [show 64 - ((Wl.sumF (Wl.intB e)).length + 1) = 63 - (Wl.sumF (Wl.intB e)).length by omega]
    rfl
  have l3 : (ba (Wl.sumF (Wl.intB e))).size ≤ 14 := by rw [ba_size]; omega
  have l4 : (63 : Int) - ((ba (Wl.sumF (Wl.intB e))).size : Int) = ((63 - (Wl.sumF (Wl.intB e)).length : Nat) : Int) := by rw [ba_size]; omega
  have H3' := hid H3
  have z0 := zeros_size (63 - (Wl.sumF (Wl.intB e)).length)
  have z1 : (63 - (Wl.sumF (Wl.intB e)).length) ≤ 63 := by omega
  rw [← z0] at z1
  generalize zeros (63 - (Wl.sumF (Wl.intB e)).length) = z at *
  generalize 63 - (Wl.sumF (Wl.intB e)).length = c at *
  clear H1 H2 H3 l1 l2 z0
  generalize ba (Wl.intB e) = x at *
  generalize ba (Wl.sumF (Wl.intB e)) = y at *
  generalize anchorB e = a at *
  go_enter Try.func80, Try.ntmps80
  go_wp2_with fail
  refine (H1'.out _).mono ?_
  rintro r w1 ⟨rfl, hb1⟩
  go_wp2_with fail
  refine (H2'.out _).mono ?_
  rintro r w2 ⟨rfl, hb2⟩
  go_wp2_with fail
  refine (H3'.out _).mono ?_
  rintro r w3 ⟨rfl, hb3⟩
  have s1 : ((⟨#[3]⟩ : ByteArray) ++ y).size = 1 + y.size := ByteArray.size_append
  go_wp2_with fail
  go_ret
  exact ⟨congrArg (fun z => Ending.returned (.string z)) HE.out, below_tr (below_tr hb1 hb2) hb3⟩

/-! ### anchored -/
def ancI (s : ByteArray) : Int := if (getA s).2 then (getA s).1 else -1

set_option maxHeartbeats 1000000 in
theorem anchored_any (s : ByteArray) (w : World) (hs : s.size = 64) :
    Calls Try.prog 64 #[.string s] w fun r w' => r = .returned (.int .i64 (ancI s)) ∧ Below w.heap.size w w' := by
  have H1 := fun W => blank_any 64 (by omega) W
  have HA := getA.eq_1 s
  have HI := ancI.eq_1 s
  have e1 := fun W => PFold.cut_from s 1 (by omega) (by omega) W
  have H2 := fun W => PCode.refGetInt_any (s.extract 1 s.size) W (by rw [ByteArray.size_extract, hs]; unfold maxLen; omega)
  rw [show (1 : Int).toNat = 1 from rfl] at e1
  rw [from_list] at H2
  have H3 := fun W => anchorSector_any (PCode.Nb.getI (s.data.toList.drop 1)).1 W (Wl.getI_in _)
  generalize PCode.Nb.getI (s.data.toList.drop 1) = I at *
  obtain ⟨e, t, c⟩ := I
  simp only at H2 H3 HA
  have H1' := hid H1
  have H2' := hid H2
  have H3' := hid H3
  have hAs : (s = anchorB e) ↔ (anchorB e = s) := ⟨Eq.symm, Eq.symm⟩
  generalize anchorB e = A at *
  generalize zeros 64 = Z at *
  generalize s.extract 1 s.size = x at *
  generalize getA s = G at *
  generalize ancI s = Y at *
  clear H1 H2 H3
  by_cases h1 : s = Z
  · rw [if_pos h1] at HA
    subst HA
    obtain rfl : Y = 0 := HI
    have h1' : (s.toList == Z.toList) = true := str_same h1
    clear h1
    go_enter Try.func64, Try.ntmps64
    go_wp2_with fail
    refine (H1'.out _).mono ?_
    rintro r w1 ⟨rfl, hb1⟩
    go_wp2_with fail
    go_ret
    exact ⟨rfl, hb1⟩
  · rw [if_neg h1] at HA
    have h1' : (s.toList == Z.toList) = false := str_other h1
    clear h1
    by_cases h2 : c = 0 ∧ 0 ≤ e ∧ e ≤ 1000000
    · rw [if_pos h2] at HA
      obtain ⟨h2, h3, h4⟩ := h2
      subst h2
      subst HA
      by_cases h5 : s = A
      · have h5' : (A.toList == s.toList) = true := str_same h5.symm
        obtain rfl : Y = e := by rw [HI]; simp [h5]
        clear h5 HI
        go_enter Try.func64, Try.ntmps64
        go_wp2_with fail
        refine (H1'.out _).mono ?_
        rintro r w1 ⟨rfl, hb1⟩
        go_wp2_with fail
        refine (H2'.out _).mono ?_
        rintro r w2 ⟨rfl, rfl⟩
        go_wp2_with fail
        refine (H3'.out _).mono ?_
        rintro r w3 ⟨rfl, hb3⟩
        go_wp2_with fail
        go_ret
        exact ⟨rfl, below_tr hb1 hb3⟩
      · have h5' : (A.toList == s.toList) = false := str_other (fun h => h5 h.symm)
        obtain rfl : Y = -1 := by rw [HI]; simp [h5]
        clear h5 HI
        go_enter Try.func64, Try.ntmps64
        go_wp2_with fail
        refine (H1'.out _).mono ?_
        rintro r w1 ⟨rfl, hb1⟩
        go_wp2_with fail
        refine (H2'.out _).mono ?_
        rintro r w2 ⟨rfl, rfl⟩
        go_wp2_with fail
        refine (H3'.out _).mono ?_
        rintro r w3 ⟨rfl, hb3⟩
        go_wp2_with fail
        go_ret
        exact ⟨rfl, below_tr hb1 hb3⟩
    · rw [if_neg h2] at HA
      subst HA
      obtain rfl : Y = -1 := HI
      by_cases h3 : c = 0
      · subst h3
        have h4 : e < 0 ∨ (0 ≤ e ∧ 1000000 < e) := by omega
        clear h2
        rcases h4 with h4 | ⟨h4, h5⟩
        · have h4' : decide (0 ≤ e) = false := by simp; omega
          go_enter Try.func64, Try.ntmps64
          go_wp2_with fail
          refine (H1'.out _).mono ?_
          rintro r w1 ⟨rfl, hb1⟩
          go_wp2_with fail
          refine (H2'.out _).mono ?_
          rintro r w2 ⟨rfl, rfl⟩
          go_wp2_with fail
          go_ret
          exact ⟨rfl, hb1⟩
        · have h4' : decide (0 ≤ e) = true := by simpa using h4
          have h5' : decide (e ≤ 1000000) = false := by simp; omega
          go_enter Try.func64, Try.ntmps64
          go_wp2_with fail
          refine (H1'.out _).mono ?_
          rintro r w1 ⟨rfl, hb1⟩
          go_wp2_with fail
          refine (H2'.out _).mono ?_
          rintro r w2 ⟨rfl, rfl⟩
          go_wp2_with fail
          go_ret
          exact ⟨rfl, hb1⟩
      · have h3' : ((c : Int) == 0) = false := by simp; omega
        clear h2
        go_enter Try.func64, Try.ntmps64
        go_wp2_with fail
        refine (H1'.out _).mono ?_
        rintro r w1 ⟨rfl, hb1⟩
        go_wp2_with fail
        refine (H2'.out _).mono ?_
        rintro r w2 ⟨rfl, rfl⟩
        go_wp2_with fail
        go_ret
        exact ⟨rfl, hb1⟩

end Go.Proofs.Ythfpinjegfgeiaa
