/- The document's own disk: NewDisk. -/
import Derived.Test.YthfpinjegfgeiaaSectRefWrite
namespace Go.Proofs.Ythfpinjegfgeiaa
open Go Go.RowKit
set_option maxRecDepth 100000

/-- What the loop's statement is given. -/
structure HelpN (wr : World) (b : Nat) (F : Nat → FR) (k : Nat) (z : ByteArray) : Prop where
  r0 : RS (rown b F) wr wr.drew b (rhead (SD.fresh k) F) F (XS (SD.fresh k))
  sr : ∀ W F' X', RS (rown b F) wr W b (rhead (SD.fresh k) F) F' X' → W.cell? ⟨b, 0, none⟩ = some (.slice (F 0).a k (F 0).c) ∧ W.cell? ⟨b, 1, none⟩ = some (.slice (F 1).a k (F 1).c)
  o0 : ∀ W F' X', RS (rown b F) wr W b (rhead (SD.fresh k) F) F' X' → F' 0 = F 0 → X' 0 = XS (SD.fresh k) 0 → W.ownsRow 0 9 1 (.slice (F 0).a k (F 0).c) k (List.replicate k (.string z))
  o1 : ∀ W F' X', RS (rown b F) wr W b (rhead (SD.fresh k) F) F' X' → F' 1 = F 1 → X' 1 = XS (SD.fresh k) 1 → W.ownsRow 0 9 1 (.slice (F 1).a k (F 1).c) k (List.replicate k (.string z))
  a0 : ∀ W F' X' g' cap W', RS (rown b F) wr W b (rhead (SD.fresh k) F) F' X' → F' 0 = F 0 → X' 0 = XS (SD.fresh k) 0 → W'.ownsRow 0 9 1 (.slice (some ⟨g', 0, none⟩) (k + 1) cap) (k + 1) (List.replicate k (.string z) ++ [.string z]) →
      W.grownBy W' (Value.slice (F 0).a k (F 0).c).ownBlock → ((Value.slice (F 0).a k (F 0).c).ownBlock = some g' ∨ g' = W.heap.size) →
      RS (rown b F) wr W' b (rhead (SD.fresh k) F) (updF F' 0 ⟨some ⟨g', 0, none⟩, cap⟩) (updX X' 0 (XS (SD.fresh k) 0 ++ [.string z]))
  a1 : ∀ W F' X' g' cap W', RS (rown b F) wr W b (rhead (SD.fresh k) F) F' X' → F' 1 = F 1 → X' 1 = XS (SD.fresh k) 1 → W'.ownsRow 0 9 1 (.slice (some ⟨g', 0, none⟩) (k + 1) cap) (k + 1) (List.replicate k (.string z) ++ [.string z]) →
      W.grownBy W' (Value.slice (F 1).a k (F 1).c).ownBlock → ((Value.slice (F 1).a k (F 1).c).ownBlock = some g' ∨ g' = W.heap.size) →
      RS (rown b F) wr W' b (rhead (SD.fresh k) F) (updF F' 1 ⟨some ⟨g', 0, none⟩, cap⟩) (updX X' 1 (XS (SD.fresh k) 1 ++ [.string z]))
  fin : ∀ W g0 c0 g1 c1, RS (rown b F) wr W b (rhead (SD.fresh k) F) (updF (updF F 0 ⟨some ⟨g0, 0, none⟩, c0⟩) 1 ⟨some ⟨g1, 0, none⟩, c1⟩) (updX (updX (XS (SD.fresh k)) 0 (XS (SD.fresh k) 0 ++ [.string z])) 1 (XS (SD.fresh k) 1 ++ [.string z])) →
      W.cell? ⟨b, 0, none⟩ = some (.slice (F 0).a k (F 0).c) ∧ W.frozen? ⟨b, 0, none⟩ = false ∧ W.cell? ⟨b, 1, none⟩ = some (.slice (F 1).a k (F 1).c) ∧ W.frozen? ⟨b, 1, none⟩ = false ∧
      Hid (∃ F', RefAt ((W.setCell ⟨b, 0, none⟩ (.slice (some ⟨g0, 0, none⟩) (k + 1) c0)).setCell ⟨b, 1, none⟩ (.slice (some ⟨g1, 0, none⟩) (k + 1) c1)) b F' (SD.fresh (k + 1)) ∧
        Goes (rown b F) wr ((W.setCell ⟨b, 0, none⟩ (.slice (some ⟨g0, 0, none⟩) (k + 1) c0)).setCell ⟨b, 1, none⟩ (.slice (some ⟨g1, 0, none⟩) (k + 1) c1)) (rown b F'))

theorem helpN (wr : World) (b : Nat) (F : Nat → FR) (k : Nat) (hk : k < 256) (z : ByteArray) (hz : zeros 64 = z) (h : RefAt wr b F (SD.fresh k)) : HelpN wr b F k z := by
  have e0 : XS (SD.fresh k) 0 = List.replicate k (.string z) := by rw [← hz]; simp [XS, SD.fresh]
  have e1 : XS (SD.fresh k) 1 = List.replicate k (.string z) := by rw [← hz]; simp [XS, SD.fresh]
  have l0 : (SD.fresh k).seen.length = k := by simp [SD.fresh]
  have l1 : (SD.fresh k).safe.length = k := by simp [SD.fresh]
  have cells : ∀ W F' X', RS (rown b F) wr W b (rhead (SD.fresh k) F) F' X' → W.cell? ⟨b, 0, none⟩ = some (.slice (F 0).a k (F 0).c) ∧ W.cell? ⟨b, 1, none⟩ = some (.slice (F 1).a k (F 1).c) := by
    intro W F' X' r
    have c0 := r.cell 0 (.slice (F 0).a (SD.fresh k).seen.length (F 0).c) rfl
    have c1 := r.cell 1 (.slice (F 1).a (SD.fresh k).safe.length (F 1).c) rfl
    rw [l0] at c0
    rw [l1] at c1
    exact ⟨c0, c1⟩
  refine ⟨h.rs.drew, cells, ?_, ?_, ?_, ?_, ?_⟩
  · intro W F' X' r hF hX
    have := r.own 0 (by omega)
    unfold rsl at this
    rw [hF, hX, e0, List.length_replicate] at this
    exact this
  · intro W F' X' r hF hX
    have := r.own 1 (by omega)
    unfold rsl at this
    rw [hF, hX, e1, List.length_replicate] at this
    exact this
  · intro W F' X' g' cap W' r hF hX a1 a2 a3
    have el : (X' 0).length = k := by rw [hX, e0, List.length_replicate]
    have := r.app (W' := W') 0 (by omega) (fun k hk => .inl (.inr ⟨0, by omega, by rw [← hF]; exact hk⟩)) (.string z) g' cap (by rw [el, hX, e0]; exact a1) (by unfold rsl; rw [hF, el]; exact a2) (by unfold rsl; rw [hF, el]; exact a3)
    rw [hX] at this
    exact this
  · intro W F' X' g' cap W' r hF hX a1 a2 a3
    have el : (X' 1).length = k := by rw [hX, e1, List.length_replicate]
    have := r.app (W' := W') 1 (by omega) (fun k hk => .inl (.inr ⟨1, by omega, by rw [← hF]; exact hk⟩)) (.string z) g' cap (by rw [el, hX, e1]; exact a1) (by unfold rsl; rw [hF, el]; exact a2) (by unfold rsl; rw [hF, el]; exact a3)
    rw [hX] at this
    exact this
  · intro W g0 c0 g1 c1 r
    have cc := cells _ _ _ r
    have r2 := (r.set (.inl (.inl rfl)) 0 (.slice (some ⟨g0, 0, none⟩) (k + 1) c0)).set (.inl (.inl rfl)) 1 (.slice (some ⟨g1, 0, none⟩) (k + 1) c1)
    have f0 : (SD.fresh (k + 1)).seen.length = k + 1 := by simp [SD.fresh]
    have f1 : (SD.fresh (k + 1)).safe.length = k + 1 := by simp [SD.fresh]
    refine ⟨cc.1, r.fz 0, cc.2, r.fz 1, _, RefAt.of r2 (SD.fresh (k + 1)) ?_ ?_ ?_ rfl rfl (fresh_ok _ (by omega)), r2.goes⟩
    · unfold rhead
      rw [f0, f1]
      rfl
    · show XS (SD.fresh k) 0 ++ [.string z] = XS (SD.fresh (k + 1)) 0
      rw [e0, ← hz]
      simp [XS, SD.fresh, List.replicate_succ']
    · show XS (SD.fresh k) 1 ++ [.string z] = XS (SD.fresh (k + 1)) 1
      rw [e1, ← hz]
      simp [XS, SD.fresh, List.replicate_succ']

theorem ref_start (w : World) : RefAt (w.alloc (.cells #[.slice none 0 0, .slice none 0 0, .slice none 0 0, .slice none 0 0, .int .i64 (-1)] 57)) w.heap.size (fun _ => ⟨none, 0⟩) (SD.fresh 0) ∧
    Goes (fun _ => False) w (w.alloc (.cells #[.slice none 0 0, .slice none 0 0, .slice none 0 0, .slice none 0 0, .int .i64 (-1)] 57)) (rown w.heap.size (fun _ => ⟨none, 0⟩)) := by
  refine ⟨⟨⟨heap_alloc_new w _, fun i hi => ?_, fun i hi k hk => by simp [FR.blk] at hk, fun i hi j hj hij k hk => by simp [FR.blk] at hk, Goes.refl _ _⟩, fresh_ok 0 (by omega)⟩, ?_⟩
  · match i, hi with
    | 0, _ => exact World.ownsRow_nil _ _ _ _
    | 1, _ => exact World.ownsRow_nil _ _ _ _
    | 2, _ => exact World.ownsRow_nil _ _ _ _
    | 3, _ => exact World.ownsRow_nil _ _ _ _
  · have g := (Goes.refl (fun _ => False) w).alloc (.cells #[.slice none 0 0, .slice none 0 0, .slice none 0 0, .slice none 0 0, .int .i64 (-1)] 57)
    refine ⟨g.os, g.tape, g.output, g.size, g.block, ?_⟩
    rintro k (e | ⟨i, _, e⟩)
    · right; omega
    · simp [FR.blk] at e

set_option maxHeartbeats 8000000 in
theorem ref_new (w : World) (n : Nat) (hn : n ≤ 256) : Calls Try.prog 29 #[.int .i64 (n : Int)] w fun e w' =>
    ∃ b F, e = .returned (.pointer (some ⟨b, 0, none⟩)) ∧ RefAt w' b F (SD.fresh n) ∧ Goes (fun _ => False) w w' (rown b F) := by
  have HB : Hid (∀ W, Calls Try.prog 50 #[.int .i64 64] W fun e w' => e = .returned (.string (zeros 64)) ∧ Below W.heap.size W w') := fun W => blank_any 64 (by omega) W
  generalize hz : zeros 64 = z at *
  have HZ := hid hz
  clear hz
  have ST := hid (ref_start w)
  obtain ⟨i3, v3, z30, z31, z32⟩ := info_parts tx_info'
  have I3 := hid v3
  have I31 := hid z30
  have I32 := hid z31
  have I33 := hid z32
  clear v3 z30 z31 z32
  go_enter Try.func29, Try.ntmps29
  go_wp2_with fail
  go_loopw [7] (fun i wr => ∃ (k : Nat) (F : Nat → FR), k ≤ n ∧ i = .int .i64 k ∧ Hid (RefAt wr w.heap.size F (SD.fresh k)) ∧ Hid (Goes (fun _ => False) w wr (rown w.heap.size F))) (fun i _ => n - (intOf i).toNat)
  case atStart => exact ⟨0, fun _ => ⟨none, 0⟩, Nat.zero_le _, rfl, ST.out.1, ST.out.2⟩
  case round =>
    clear ST
    obtain ⟨k, F, hk, rfl, hr, G1⟩ := hrel
    by_cases hlt : k < n
    · have HP := hid (helpN wr w.heap.size F k (by omega) z HZ.out hr.out)
      have H16 : Hid (((k + 1) + (k + 1) / 4 + 192) * 16 ≤ 281474976710656) := by show _ ≤ _; omega
      have HM1 : Hid (k + 1 ≤ maxLen) := by show _ ≤ _; unfold maxLen; omega
      generalize w.heap.size = b at *
      clear hr
      go_wp2_with fail
      refine wp_region_noPanic ?_
      refine wp_region_any (by kernel_rfl) ?_
      change wpAny _ _ _ _ _ _ _ wr.drew
      refine wpAny_take (i := 1) (v := ?tv1) rfl (by kernel_rfl) (by kernel_rfl) (by kernel_rfl) (fun _ _ _ h => h) (Or.inl ⟨by rfl, ?th1⟩) ?tr1
      case th1 => (intro w; go_simp; all_goals (with_reducible rfl))
      simp only [Act.put, List.getElem_toArray, List.getElem_cons_zero, List.getElem_cons_succ, List.setIfInBounds_toArray, List.set_cons_zero, List.set_cons_succ]
      refine wpAny_phases 16 ((Array.replicate 16 false).setIfInBounds 1 true) 15 (by kernel_rfl) (by kernel_rfl) (by decide) (by decide) (by kernel_rfl) rfl ?_
      simp only [firstOf, List.take_succ_cons, List.take_zero]
      refine wpAny_of_held (S := fun W => W.cell? ⟨b, 0, none⟩ = some (.slice (F 0).a k (F 0).c) ∧ W.cell? ⟨b, 1, none⟩ = some (.slice (F 1).a k (F 1).c)) _ _ _ _ ?_
      have hHeld : (fun W : World => W.cell? ⟨b, 0, none⟩ = some (.slice (F 0).a k (F 0).c) ∧ W.cell? ⟨b, 1, none⟩ = some (.slice (F 1).a k (F 1).c)) wr.drew := HP.out.sr _ _ _ HP.out.r0
      refine wpAnyH_take (i := 0) (v := ?tv2) rfl (by kernel_rfl) (by kernel_rfl) (by kernel_rfl) (fun _ _ _ h => h) (Or.inl ⟨by rfl, ?th2⟩) (by assumption) ?tr2
      case th2 => (intro w hSw; (try dsimp only at hSw); go_simp; all_goals (with_reducible rfl))
      simp only [Act.put, List.getElem_toArray, List.getElem_cons_zero, List.setIfInBounds_toArray, List.set_cons_zero, List.set_cons_succ]
      refine wpAnyH_take (i := 2) (v := ?tv3) rfl (by kernel_rfl) (by kernel_rfl) (by kernel_rfl) (fun _ _ _ h => h) (Or.inl ⟨by rfl, ?th3⟩) (by assumption) ?tr3
      case th3 => (intro w hSw; (try dsimp only at hSw); go_simp; all_goals (with_reducible rfl))
      simp only [Act.put, List.getElem_toArray, List.getElem_cons_zero, List.getElem_cons_succ, List.setIfInBounds_toArray, List.set_cons_zero, List.set_cons_succ]
      refine wpAnyH_take (i := 3) (v := ?tv4) rfl (by kernel_rfl) (by kernel_rfl) (by kernel_rfl) (fun _ _ _ h => h) (Or.inl ⟨by rfl, ?th4⟩) (by assumption) ?tr4
      case th4 => (intro w hSw; (try dsimp only at hSw); go_simp; all_goals (with_reducible rfl))
      simp only [Act.put, List.getElem_toArray, List.getElem_cons_zero, List.getElem_cons_succ, List.setIfInBounds_toArray, List.set_cons_zero, List.set_cons_succ]
      refine wpAnyH_take (i := 4) (v := ?tv5) rfl (by kernel_rfl) (by kernel_rfl) (by kernel_rfl) (fun _ _ _ h => h) (Or.inl ⟨by rfl, ?th5⟩) (by assumption) ?tr5
      case th5 => (intro w hSw; (try dsimp only at hSw); go_simp; all_goals (with_reducible rfl))
      simp only [Act.put, List.getElem_toArray, List.getElem_cons_zero, List.getElem_cons_succ, List.setIfInBounds_toArray, List.set_cons_zero, List.set_cons_succ]
      refine wpAnyH_take (i := 5) (v := ?tv6) rfl (by kernel_rfl) (by kernel_rfl) (by kernel_rfl) (fun _ _ _ h => h) (Or.inl ⟨by rfl, ?th6⟩) (by assumption) ?tr6
      case th6 => (intro w hSw; (try dsimp only at hSw); go_simp; all_goals (with_reducible rfl))
      simp only [Act.put, List.getElem_toArray, List.getElem_cons_zero, List.getElem_cons_succ, List.setIfInBounds_toArray, List.set_cons_zero, List.set_cons_succ]
      refine wpAnyH_take (i := 9) (v := ?tv7) rfl (by kernel_rfl) (by kernel_rfl) (by kernel_rfl) (fun _ _ _ h => h) (Or.inl ⟨by rfl, ?th7⟩) (by assumption) ?tr7
      case th7 => (intro w hSw; (try dsimp only at hSw); go_simp; all_goals (with_reducible rfl))
      simp only [Act.put, List.getElem_toArray, List.getElem_cons_zero, List.getElem_cons_succ, List.setIfInBounds_toArray, List.set_cons_zero, List.set_cons_succ]
      refine wpAnyH_take (i := 10) (v := ?tv8) rfl (by kernel_rfl) (by kernel_rfl) (by kernel_rfl) (fun _ _ _ h => h) (Or.inl ⟨by rfl, ?th8⟩) (by assumption) ?tr8
      case th8 => (intro w hSw; (try dsimp only at hSw); go_simp; all_goals (with_reducible rfl))
      simp only [Act.put, List.getElem_toArray, List.getElem_cons_zero, List.getElem_cons_succ, List.setIfInBounds_toArray, List.set_cons_zero, List.set_cons_succ]
      refine wpAnyH_take (i := 11) (v := ?tv9) rfl (by kernel_rfl) (by kernel_rfl) (by kernel_rfl) (fun _ _ _ h => h) (Or.inl ⟨by rfl, ?th9⟩) (by assumption) ?tr9
      case th9 => (intro w hSw; (try dsimp only at hSw); go_simp; all_goals (with_reducible rfl))
      simp only [Act.put, List.getElem_toArray, List.getElem_cons_zero, List.getElem_cons_succ, List.setIfInBounds_toArray, List.set_cons_zero, List.set_cons_succ]
      refine wpAnyH_take (i := 12) (v := ?tv10) rfl (by kernel_rfl) (by kernel_rfl) (by kernel_rfl) (fun _ _ _ h => h) (Or.inl ⟨by rfl, ?th10⟩) (by assumption) ?tr10
      case th10 => (intro w hSw; (try dsimp only at hSw); go_simp; all_goals (with_reducible rfl))
      simp only [Act.put, List.getElem_toArray, List.getElem_cons_zero, List.getElem_cons_succ, List.setIfInBounds_toArray, List.set_cons_zero, List.set_cons_succ]
      have q0 := HP.out.r0
      refine wpAnyH_ready (rs := [6]) (by kernel_rfl) (by simp) ?_
      refine AllReadyH.cons rfl (fun K hK => ?_) AllReadyH.nil
      go_simp
      refine (HB.out _).mono ?_
      rintro e w1 ⟨rfl, hb1⟩
      have q1 := q0.on hb1
      refine hK.out _ _ (HP.out.sr _ _ _ q1) (fun hHeld => ?_)
      clear hK K
      refine wpAnyH_ready (rs := [7]) (by kernel_rfl) (by simp) ?_
      refine AllReadyH.cons rfl (fun K hK => ?_) AllReadyH.nil
      go_simp
      have q2 := q1.alloc (.cells #[.string z] 9)
      have n2 : (w1.alloc (.cells #[.string z] 9)).heap[w1.heap.size]? = some (.cells #[.string z] 9 (0, 0)) := heap_alloc_new w1 _
      refine hK.out _ _ (HP.out.sr _ _ _ q2) (fun hHeld => ?_)
      clear hK K
      refine wpAnyH_ready (rs := [8]) (by kernel_rfl) (by simp) ?_
      refine AllReadyH.cons rfl (fun K hK => ?_) AllReadyH.nil
      refine step_append_far (by rfl) _ _ _ (by rfl) 0 9 i3 (.string ⟨#[]⟩) 1 16 Try.underlying54 I3.out I31.out I32.out I33.out rfl (by decide) _ k _ (by rfl) (HP.out.o0 _ _ _ q2 rfl rfl) ⟨w1.heap.size, 0, none⟩ 1 1 [.string z] (by rfl) rfl (news_one n2) (by intro u hu; rw [List.mem_singleton.1 hu]; rfl) (by decide) HM1.out H16.out (Nat.zero_le _) ?_
      intro g0 e0 w2 a1 a2 a3 _
      have q3 := HP.out.a0 _ _ _ g0 e0 w2 q2 rfl rfl a1 a2 a3
      refine hK.out _ _ (HP.out.sr _ _ _ q3) (fun hHeld => ?_)
      clear hK K
      simp only [Act.put, List.getElem_toArray, List.getElem_cons_zero, List.getElem_cons_succ, List.setIfInBounds_toArray, List.set_cons_zero, List.set_cons_succ]
      refine wpAnyH_ready (rs := [13]) (by kernel_rfl) (by simp) ?_
      refine AllReadyH.cons rfl (fun K hK => ?_) AllReadyH.nil
      go_simp
      refine (HB.out _).mono ?_
      rintro e w3 ⟨rfl, hb3⟩
      have q4 := q3.on hb3
      refine hK.out _ _ (HP.out.sr _ _ _ q4) (fun hHeld => ?_)
      clear hK K
      refine wpAnyH_ready (rs := [14]) (by kernel_rfl) (by simp) ?_
      refine AllReadyH.cons rfl (fun K hK => ?_) AllReadyH.nil
      go_simp
      have q5 := q4.alloc (.cells #[.string z] 9)
      have n5 : (w3.alloc (.cells #[.string z] 9)).heap[w3.heap.size]? = some (.cells #[.string z] 9 (0, 0)) := heap_alloc_new w3 _
      refine hK.out _ _ (HP.out.sr _ _ _ q5) (fun hHeld => ?_)
      clear hK K
      refine wpAnyH_ready (rs := [15]) (by kernel_rfl) (by simp) ?_
      refine AllReadyH.cons rfl (fun K hK => ?_) AllReadyH.nil
      refine step_append_far (by rfl) _ _ _ (by rfl) 0 9 i3 (.string ⟨#[]⟩) 1 16 Try.underlying54 I3.out I31.out I32.out I33.out rfl (by decide) _ k _ (by rfl) (HP.out.o1 _ _ _ q5 rfl rfl) ⟨w3.heap.size, 0, none⟩ 1 1 [.string z] (by rfl) rfl (news_one n5) (by intro u hu; rw [List.mem_singleton.1 hu]; rfl) (by decide) HM1.out H16.out (Nat.zero_le _) ?_
      intro g1 e1 w4 a5 a6 a7 _
      have q6 := HP.out.a1 _ _ _ g1 e1 w4 q5 rfl rfl a5 a6 a7
      refine hK.out _ _ (HP.out.sr _ _ _ q6) (fun hHeld => ?_)
      clear hK K
      simp only [Act.put, List.getElem_toArray, List.getElem_cons_zero, List.getElem_cons_succ, List.setIfInBounds_toArray, List.set_cons_zero, List.set_cons_succ]
      refine wpAnyH_done (by kernel_rfl) ?_ _
      obtain ⟨r1, r2, r3, r4, r5⟩ := HP.out.fin w4 g0 e0 g1 e1 q6
      change wpAny _ _ _ _ 6 _ _ w4
      refine wpAny_of_held (S := fun _ => True) _ _ _ _ ?_
      have hT : (fun _ : World => True) w4 := trivial
      refine wpAnyH_take (i := 16) (v := ?tv11) rfl (by kernel_rfl) (by kernel_rfl) (by kernel_rfl) (fun _ _ _ h => h) (Or.inl ⟨by rfl, ?th11⟩) (by assumption) ?tr11
      case th11 => (intro w hSw; (try dsimp only at hSw); go_simp; all_goals (with_reducible rfl))
      simp only [Act.put, List.getElem_toArray, List.getElem_cons_zero, List.getElem_cons_succ, List.setIfInBounds_toArray, List.set_cons_zero, List.set_cons_succ]
      refine wpAnyH_take (i := 17) (v := ?tv12) rfl (by kernel_rfl) (by kernel_rfl) (by kernel_rfl) (fun _ _ _ h => h) (Or.inl ⟨by rfl, ?th12⟩) (by assumption) ?tr12
      case th12 => (intro w hSw; (try dsimp only at hSw); go_simp; all_goals (with_reducible rfl))
      simp only [Act.put, List.getElem_toArray, List.getElem_cons_zero, List.getElem_cons_succ, List.setIfInBounds_toArray, List.set_cons_zero, List.set_cons_succ]
      refine wpAnyH_ready (rs := [18]) (by kernel_rfl) (by simp) ?_
      refine AllReadyH.cons rfl (fun K hK => ?_) AllReadyH.nil
      go_simp
      refine hK.out _ _ trivial (fun hT2 => ?_)
      clear hK K
      refine wpAnyH_take (i := 19) (v := ?tv13) rfl (by kernel_rfl) (by kernel_rfl) (by kernel_rfl) (fun _ _ _ h => h) (Or.inl ⟨by rfl, ?th13⟩) (by assumption) ?tr13
      case th13 => (intro w hSw; (try dsimp only at hSw); go_simp; all_goals (with_reducible rfl))
      simp only [Act.put, List.getElem_toArray, List.getElem_cons_zero, List.getElem_cons_succ, List.setIfInBounds_toArray, List.set_cons_zero, List.set_cons_succ]
      refine wpAnyH_take (i := 20) (v := ?tv14) rfl (by kernel_rfl) (by kernel_rfl) (by kernel_rfl) (fun _ _ _ h => h) (Or.inl ⟨by rfl, ?th14⟩) (by assumption) ?tr14
      case th14 => (intro w hSw; (try dsimp only at hSw); go_simp; all_goals (with_reducible rfl))
      simp only [Act.put, List.getElem_toArray, List.getElem_cons_zero, List.getElem_cons_succ, List.setIfInBounds_toArray, List.set_cons_zero, List.set_cons_succ]
      refine wpAnyH_ready (rs := [21]) (by kernel_rfl) (by simp) ?_
      refine AllReadyH.cons rfl (fun K hK => ?_) AllReadyH.nil
      go_simp
      refine hK.out _ _ trivial (fun hT2 => ?_)
      clear hK K
      refine wpAnyH_done (by kernel_rfl) ?_ _
      refine NoPanic.normal ?_
      obtain ⟨F', s1, s2⟩ := r5.out
      have S1 := hid s1
      have S2 := hid (G1.out.trans s2)
      clear s1 s2 r1 r2 r3 r4 r5 q0 q1 q2 q3 q4 q5 q6 n2 n5 hb1 hb3 a1 a2 a3 a5 a6 a7
      go_wp2_with fail
      go_roundw
      case rel => exact ⟨k + 1, F', by omega, by go_num, S1.out, S2.out⟩
      case measure => simp [intOf]; omega
    · obtain rfl : k = n := by omega
      clear HB
      go_wp2_with fail
      go_ret
      exact ⟨_, F, rfl, hr.out, G1.out⟩

end Go.Proofs.Ythfpinjegfgeiaa
