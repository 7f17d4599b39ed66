/- The document's own disk: Write. -/
import Derived.Test.YthfpinjegfgeiaaSectRefPush
namespace Go.Proofs.Ythfpinjegfgeiaa
open Go Go.RowKit
set_option maxRecDepth 100000

theorem room_less (m : Nat) (h : ((m + 1) + (m + 1) / 4 + 192) * 16 ≤ 281474976710656) : ((m + 1) + (m + 1) / 4 + 192) * 8 ≤ 281474976710656 ∧ m + 1 ≤ maxLen := by
  unfold maxLen
  omega

set_option maxHeartbeats 8000000 in
theorem ref_write_ok (w : World) (b : Nat) (F : Nat → FR) (d : SD) (h : RefAt w b F d) (k : Nat) (hk : k < d.n) (t : ByteArray) (ht : t.size ≤ 64) (hd : d.down = false)
    (hroom : ((d.loose.length + 1) + (d.loose.length + 1) / 4 + 192) * 16 ≤ 281474976710656) : Calls Try.prog 52 #[.pointer (some ⟨b, 0, none⟩), .int .i64 (k : Int), .string t] w fun e w' =>
    ∃ F', e = .returned (.int .i64 0) ∧ RefAt w' b F' { d.burn with seen := d.burn.seen.set k (pad t), loose := d.burn.loose ++ [(k, pad t)] } ∧ Goes (rown b F) w w' (rown b F') := by
  have c0 := h.c0
  have c4 := h.c4
  have f4 := h.rs.fz 4
  obtain ⟨bs, bsf, bl⟩ : d.burn.seen = d.seen ∧ d.burn.safe = d.safe ∧ d.burn.loose = d.loose := by unfold SD.burn; split <;> exact ⟨rfl, rfl, rfl⟩
  have en : d.burn.n = d.n := by unfold SD.n; rw [bs]
  have B1 := h.burn hd _ (burn_rl d hd h.ok)
  have RG : Hid (RefAt (w.setCell ⟨b, 4, none⟩ (.int .i64 (max (rl d - 1) (min (rl d) (-1))))).drew b F d.burn ∧ Goes (rown b F) w (w.setCell ⟨b, 4, none⟩ (.int .i64 (max (rl d - 1) (min (rl d) (-1))))).drew (rown b F)) := ⟨B1.1.drew, B1.2.drew⟩
  have hsm := h.ok.small
  obtain ⟨r0, r1⟩ := rl_ge d h.ok
  have hr := rl_down d
  rw [hd] at hr
  rw [← bl] at hroom
  rw [← bs] at c0
  rw [← en] at hk hsm
  have HB := hid fun W => blank_any (64 - t.size) (by omega) W
  have hps := pad_size t ht
  have hpt : pad t = t ++ zeros (64 - t.size) := rfl
  have hzs := zeros_size (64 - t.size)
  generalize d.burn = d1 at *
  generalize rl d = L at *
  generalize zeros (64 - t.size) = z at *
  obtain ⟨h8, hm1⟩ := room_less d1.loose.length hroom
  have H8 := hid h8
  have H16 := hid hroom
  have HM1 := hid hm1
  have HPT := hid hpt
  have HPS := hid hps
  have tI : ((t.size : Nat) : Int) ≤ 64 := by omega
  have e1 : decide ((k : Int) < 0) = false := by simp
  have hk2 : k < d1.seen.length := hk
  have e3 : decide ((d1.seen.length : Int) ≤ (k : Int)) = false := by simp; omega
  have e4 : decide (d1.seen.length ≤ k) = false := by simp; omega
  have t1 : decide ((64 : Int) < (t.size : Int)) = false := by simp; omega
  have t2 : decide (64 < t.size) = false := by simp; omega
  have t3 : (64 : Int) - (t.size : Int) = ((64 - t.size : Nat) : Int) := by omega
  have t4 : IntKind.i64.wrap ((64 - t.size : Nat) : Int) = ((64 - t.size : Nat) : Int) := by rw [IntKind.wrap_i64]; omega
  have hcat : ¬ (9223372036854775807 < t.size + z.size) := by omega
  clear hpt hps bs bsf bl en h hd B1 hzs hroom h8 hm1
  go_enter Try.func52, Try.ntmps52
  go_wp2_with fail
  go_region
  obtain ⟨h1, g1⟩ := RG.out
  generalize (w.setCell ⟨b, 4, none⟩ (.int .i64 (max (L - 1) (min L (-1))))).drew = w1 at *
  obtain ⟨g, hg, hc, hf, hgb, hgl⟩ := h1.rs.at_ 0 (by omega) (by show 0 < (d1.seen.map Value.string).length; rw [List.length_map]; omega)
  have c0 := h1.c0
  rw [hg] at c0
  have hk1 := hc k (.string (d1.seen.getD k ⟨#[]⟩)) (by show (d1.seen.map Value.string)[k]? = _; rw [List.getElem?_map, List.getElem?_eq_getElem hk2]; simp [List.getD, List.getElem?_eq_getElem hk2])
  generalize d1.seen.getD k ⟨#[]⟩ = old at hk1
  have SB : Hid (∀ W', Below w1.drew.heap.size w1.drew W' → W'.cell? ⟨b, 0, none⟩ = some (.slice (some ⟨g, 0, none⟩) d1.seen.length (F 0).c) ∧ W'.cell? ⟨g, k, none⟩ = some (.string old) ∧ W'.frozen? ⟨g, k, none⟩ = false ∧
      Hid (RefAt (W'.setCell ⟨g, k, none⟩ (.string (pad t))) b F { d1 with seen := d1.seen.set k (pad t) } ∧ Goes (rown b F) w (W'.setCell ⟨g, k, none⟩ (.string (pad t))) (rown b F))) := by
    intro W' hb
    have rs := h1.rs.drew.on hb
    have hW : RefAt W' b F d1 := ⟨rs.rebase, h1.ok⟩
    have P := hW.putSeen g hg k hk (pad t) HPS.out
    refine ⟨by rw [← hg]; exact hW.c0, ?_, ?_, P.1, ?_⟩
    · exact (World.cell?_of_block (w := w1) (a := ⟨g, k, none⟩) (hb.block g hgl)).trans hk1
    · exact (World.frozen?_of_block (w := w1) (a := ⟨g, k, none⟩) (hb.block g hgl)).trans (hf k)
    · exact (g1.trans ⟨rs.goes.os, rs.goes.tape, rs.goes.output, rs.goes.size, rs.goes.block, rs.goes.grow⟩).trans P.2
  have k0 : (0 : Int) ≤ (k : Int) := by omega
  have k1 : (k : Int) < d1.seen.length := by omega
  have H1 := hid h1
  clear h1 g1 RG hc hf c4 f4 hk1
  go_wp2_with fail
  go_region_held3 (fun W => W.cell? ⟨b, 0, none⟩ = some (.slice (some ⟨g, 0, none⟩) d1.seen.length (F 0).c)) (first | assumption | (rw [World.cell?_setCell_other _ _ _ _ (by intro e; injection e with e1 _ _; exact hgb e1)]; assumption))
    ((go_at_call 50; refine (HB.out _).mono ?_; rintro e w2 ⟨rfl, hb⟩; obtain ⟨q1, q2, q3, q4⟩ := SB.out w2 hb; clear hb))
  obtain ⟨h3, g3⟩ := q4.out
  rw [HPT.out] at h3 g3
  clear q4 q1 q2 q3 HB SB
  generalize hs : t ++ z = s at *
  generalize w2.setCell ⟨g, k, none⟩ (.string s) = w3 at *
  have c0 := h3.c0
  have c2 := h3.c2
  have c3 := h3.c3
  simp only [List.length_set] at c0
  rw [hg] at c0
  have hck : w3.cell? ⟨g, k, none⟩ = some (.string s) := by
    obtain ⟨g', hg', hc', _⟩ := h3.rs.at_ 0 (by omega) (by show 0 < ((d1.seen.set k s).map Value.string).length; rw [List.length_map, List.length_set]; omega)
    have eg : g' = g := by
      rw [hg] at hg'
      injection hg' with e
      injection e with e1 _ _
      exact e1.symm
    subst eg
    refine hc' k (.string s) ?_
    show ((d1.seen.set k s).map Value.string)[k]? = _
    rw [List.getElem?_map, List.getElem?_set_self (by omega)]
    rfl
  obtain ⟨i2, v2, z20, z21, z22⟩ := info_parts in_info
  obtain ⟨i3, v3, z30, z31, z32⟩ := info_parts tx_info'
  have I2 := hid v2
  have I21 := hid z20
  have I22 := hid z21
  have I23 := hid z22
  have I3 := hid v3
  have I31 := hid z30
  have I32 := hid z31
  have I33 := hid z32
  have HP := hid (help_any w w3 b F d1 k s g t h3 g3 hg ⟨hk, by rw [← HPT.out]; exact HPS.out⟩ HPT.out)
  clear h3 g3 hs H1 v2 z20 z21 z22 v3 z30 z31 z32
  go_wp2_with fail
  refine wp_region_noPanic ?_
  refine wp_region_any (by kernel_rfl) ?_
  change wpAny _ _ _ _ _ _ _ w3.drew
  refine wpAny_take (i := 1) (v := ?tv1) rfl (by kernel_rfl) (by kernel_rfl) (by kernel_rfl) (fun _ _ _ h => h) (Or.inl ⟨by rfl, ?th1⟩) ?tr1
  case th1 => (intro w; go_simp; all_goals (with_reducible rfl))
  simp only [Act.put, List.getElem_toArray, List.getElem_cons_zero, List.getElem_cons_succ, List.setIfInBounds_toArray, List.set_cons_zero, List.set_cons_succ]
  refine wpAny_phases 22 ((Array.replicate 22 false).setIfInBounds 1 true) 21 (by kernel_rfl) (by kernel_rfl) (by decide) (by decide) (by kernel_rfl) rfl ?_
  simp only [firstOf, List.take_succ_cons, List.take_zero]
  refine wpAny_of_held (S := fun W => W.cell? ⟨b, 0, none⟩ = some (.slice (some ⟨g, 0, none⟩) d1.seen.length (F 0).c) ∧ W.cell? ⟨b, 2, none⟩ = some (.slice (F 2).a d1.loose.length (F 2).c) ∧ W.cell? ⟨b, 3, none⟩ = some (.slice (F 3).a d1.loose.length (F 3).c) ∧ W.cell? ⟨g, k, none⟩ = some (.string s)) _ _ _ _ ?_
  have hHeld : (fun W : World => W.cell? ⟨b, 0, none⟩ = some (.slice (some ⟨g, 0, none⟩) d1.seen.length (F 0).c) ∧ W.cell? ⟨b, 2, none⟩ = some (.slice (F 2).a d1.loose.length (F 2).c) ∧ W.cell? ⟨b, 3, none⟩ = some (.slice (F 3).a d1.loose.length (F 3).c) ∧ W.cell? ⟨g, k, none⟩ = some (.string s)) w3.drew := ⟨c0, c2, c3, hck⟩
  refine wpAnyH_take (i := 0) (v := ?tv2) rfl (by kernel_rfl) (by kernel_rfl) (by kernel_rfl) (fun _ _ _ h => h) (Or.inl ⟨by rfl, ?th2⟩) (by assumption) ?tr2
  case th2 => (intro w hSw; (try dsimp only at hSw); go_simp; all_goals (with_reducible rfl))
  simp only [Act.put, List.getElem_toArray, List.getElem_cons_zero, List.setIfInBounds_toArray, List.set_cons_zero, List.set_cons_succ]
  refine wpAnyH_take (i := 2) (v := ?tv3) rfl (by kernel_rfl) (by kernel_rfl) (by kernel_rfl) (fun _ _ _ h => h) (Or.inl ⟨by rfl, ?th3⟩) (by assumption) ?tr3
  case th3 => (intro w hSw; (try dsimp only at hSw); go_simp; all_goals (with_reducible rfl))
  simp only [Act.put, List.getElem_toArray, List.getElem_cons_zero, List.getElem_cons_succ, List.setIfInBounds_toArray, List.set_cons_zero, List.set_cons_succ]
  refine wpAnyH_take (i := 3) (v := ?tv4) rfl (by kernel_rfl) (by kernel_rfl) (by kernel_rfl) (fun _ _ _ h => h) (Or.inl ⟨by rfl, ?th4⟩) (by assumption) ?tr4
  case th4 => (intro w hSw; (try dsimp only at hSw); go_simp; all_goals (with_reducible rfl))
  simp only [Act.put, List.getElem_toArray, List.getElem_cons_zero, List.getElem_cons_succ, List.setIfInBounds_toArray, List.set_cons_zero, List.set_cons_succ]
  refine wpAnyH_take (i := 4) (v := ?tv5) rfl (by kernel_rfl) (by kernel_rfl) (by kernel_rfl) (fun _ _ _ h => h) (Or.inl ⟨by rfl, ?th5⟩) (by assumption) ?tr5
  case th5 => (intro w hSw; (try dsimp only at hSw); go_simp; all_goals (with_reducible rfl))
  simp only [Act.put, List.getElem_toArray, List.getElem_cons_zero, List.getElem_cons_succ, List.setIfInBounds_toArray, List.set_cons_zero, List.set_cons_succ]
  refine wpAnyH_take (i := 5) (v := ?tv6) rfl (by kernel_rfl) (by kernel_rfl) (by kernel_rfl) (fun _ _ _ h => h) (Or.inl ⟨by rfl, ?th6⟩) (by assumption) ?tr6
  case th6 => (intro w hSw; (try dsimp only at hSw); go_simp; all_goals (with_reducible rfl))
  simp only [Act.put, List.getElem_toArray, List.getElem_cons_zero, List.getElem_cons_succ, List.setIfInBounds_toArray, List.set_cons_zero, List.set_cons_succ]
  refine wpAnyH_take (i := 6) (v := ?tv7) rfl (by kernel_rfl) (by kernel_rfl) (by kernel_rfl) (fun _ _ _ h => h) (Or.inl ⟨by rfl, ?th7⟩) (by assumption) ?tr7
  case th7 => (intro w hSw; (try dsimp only at hSw); go_simp; all_goals (with_reducible rfl))
  simp only [Act.put, List.getElem_toArray, List.getElem_cons_zero, List.getElem_cons_succ, List.setIfInBounds_toArray, List.set_cons_zero, List.set_cons_succ]
  refine wpAnyH_take (i := 9) (v := ?tv8) rfl (by kernel_rfl) (by kernel_rfl) (by kernel_rfl) (fun _ _ _ h => h) (Or.inl ⟨by rfl, ?th8⟩) (by assumption) ?tr8
  case th8 => (intro w hSw; (try dsimp only at hSw); go_simp; all_goals (with_reducible rfl))
  simp only [Act.put, List.getElem_toArray, List.getElem_cons_zero, List.getElem_cons_succ, List.setIfInBounds_toArray, List.set_cons_zero, List.set_cons_succ]
  refine wpAnyH_take (i := 10) (v := ?tv9) rfl (by kernel_rfl) (by kernel_rfl) (by kernel_rfl) (fun _ _ _ h => h) (Or.inl ⟨by rfl, ?th9⟩) (by assumption) ?tr9
  case th9 => (intro w hSw; (try dsimp only at hSw); go_simp; all_goals (with_reducible rfl))
  simp only [Act.put, List.getElem_toArray, List.getElem_cons_zero, List.getElem_cons_succ, List.setIfInBounds_toArray, List.set_cons_zero, List.set_cons_succ]
  refine wpAnyH_take (i := 11) (v := ?tv10) rfl (by kernel_rfl) (by kernel_rfl) (by kernel_rfl) (fun _ _ _ h => h) (Or.inl ⟨by rfl, ?th10⟩) (by assumption) ?tr10
  case th10 => (intro w hSw; (try dsimp only at hSw); go_simp; all_goals (with_reducible rfl))
  simp only [Act.put, List.getElem_toArray, List.getElem_cons_zero, List.getElem_cons_succ, List.setIfInBounds_toArray, List.set_cons_zero, List.set_cons_succ]
  refine wpAnyH_take (i := 12) (v := ?tv11) rfl (by kernel_rfl) (by kernel_rfl) (by kernel_rfl) (fun _ _ _ h => h) (Or.inl ⟨by rfl, ?th11⟩) (by assumption) ?tr11
  case th11 => (intro w hSw; (try dsimp only at hSw); go_simp; all_goals (with_reducible rfl))
  simp only [Act.put, List.getElem_toArray, List.getElem_cons_zero, List.getElem_cons_succ, List.setIfInBounds_toArray, List.set_cons_zero, List.set_cons_succ]
  refine wpAnyH_take (i := 13) (v := ?tv12) rfl (by kernel_rfl) (by kernel_rfl) (by kernel_rfl) (fun _ _ _ h => h) (Or.inl ⟨by rfl, ?th12⟩) (by assumption) ?tr12
  case th12 => (intro w hSw; (try dsimp only at hSw); go_simp; all_goals (with_reducible rfl))
  simp only [Act.put, List.getElem_toArray, List.getElem_cons_zero, List.getElem_cons_succ, List.setIfInBounds_toArray, List.set_cons_zero, List.set_cons_succ]
  refine wpAnyH_take (i := 14) (v := ?tv13) rfl (by kernel_rfl) (by kernel_rfl) (by kernel_rfl) (fun _ _ _ h => h) (Or.inl ⟨by rfl, ?th13⟩) (by assumption) ?tr13
  case th13 => (intro w hSw; (try dsimp only at hSw); go_simp; all_goals (with_reducible rfl))
  simp only [Act.put, List.getElem_toArray, List.getElem_cons_zero, List.getElem_cons_succ, List.setIfInBounds_toArray, List.set_cons_zero, List.set_cons_succ]
  refine wpAnyH_take (i := 15) (v := ?tv14) rfl (by kernel_rfl) (by kernel_rfl) (by kernel_rfl) (fun _ _ _ h => h) (Or.inl ⟨by rfl, ?th14⟩) (by assumption) ?tr14
  case th14 => (intro w hSw; (try dsimp only at hSw); go_simp; all_goals (with_reducible rfl))
  simp only [Act.put, List.getElem_toArray, List.getElem_cons_zero, List.getElem_cons_succ, List.setIfInBounds_toArray, List.set_cons_zero, List.set_cons_succ]
  refine wpAnyH_take (i := 16) (v := ?tv15) rfl (by kernel_rfl) (by kernel_rfl) (by kernel_rfl) (fun _ _ _ h => h) (Or.inl ⟨by rfl, ?th15⟩) (by assumption) ?tr15
  case th15 => (intro w hSw; (try dsimp only at hSw); go_simp; all_goals (with_reducible rfl))
  simp only [Act.put, List.getElem_toArray, List.getElem_cons_zero, List.getElem_cons_succ, List.setIfInBounds_toArray, List.set_cons_zero, List.set_cons_succ]
  refine wpAnyH_take (i := 17) (v := ?tv16) rfl (by kernel_rfl) (by kernel_rfl) (by kernel_rfl) (fun _ _ _ h => h) (Or.inl ⟨by rfl, ?th16⟩) (by assumption) ?tr16
  case th16 => (intro w hSw; (try dsimp only at hSw); go_simp; all_goals (with_reducible rfl))
  simp only [Act.put, List.getElem_toArray, List.getElem_cons_zero, List.getElem_cons_succ, List.setIfInBounds_toArray, List.set_cons_zero, List.set_cons_succ]
  refine wpAnyH_take (i := 18) (v := ?tv17) rfl (by kernel_rfl) (by kernel_rfl) (by kernel_rfl) (fun _ _ _ h => h) (Or.inl ⟨by rfl, ?th17⟩) (by assumption) ?tr17
  case th17 => (intro w hSw; (try dsimp only at hSw); go_simp; all_goals (with_reducible rfl))
  simp only [Act.put, List.getElem_toArray, List.getElem_cons_zero, List.getElem_cons_succ, List.setIfInBounds_toArray, List.set_cons_zero, List.set_cons_succ]
  refine wpAnyH_take (i := 19) (v := ?tv18) rfl (by kernel_rfl) (by kernel_rfl) (by kernel_rfl) (fun _ _ _ h => h) (Or.inl ⟨by rfl, ?th18⟩) (by assumption) ?tr18
  case th18 => (intro w hSw; (try dsimp only at hSw); go_simp; all_goals (with_reducible rfl))
  simp only [Act.put, List.getElem_toArray, List.getElem_cons_zero, List.getElem_cons_succ, List.setIfInBounds_toArray, List.set_cons_zero, List.set_cons_succ]
  have q0 := HP.out.r0
  refine wpAnyH_ready (rs := [7, 20]) (by kernel_rfl) (by simp) ?_
  refine AllReadyH.cons rfl (fun K hK => ?_) (AllReadyH.cons rfl (fun K hK => ?_) AllReadyH.nil)
  · go_simp
    have q1 : RS (rown b F) w3 (w3.alloc (.cells #[.int .i64 (k : Int)] 3)).drew b (rhead { d1 with seen := d1.seen.set k s } F) F (XS { d1 with seen := d1.seen.set k s }) := q0.alloc (.cells #[.int .i64 (k : Int)] 3)
    have n1 : (w3.alloc (.cells #[.int .i64 (k : Int)] 3)).drew.heap[w3.heap.size]? = some (.cells #[.int .i64 (k : Int)] 3 (0, 0)) := heap_alloc_new w3 _
    refine hK.out _ _ (HP.out.sr _ _ _ q1 rfl rfl) (fun hHeld => ?_)
    clear hK K
    refine wpAnyH_ready (rs := [8, 20]) (by kernel_rfl) (by simp) ?_
    refine AllReadyH.cons rfl (fun K hK => ?_) (AllReadyH.cons rfl (fun K hK => ?_) AllReadyH.nil)
    · refine step_append_far (by rfl) _ _ _ (by rfl) 0 3 i2 (.int .i64 0) 1 8 Try.underlying55 I2.out I21.out I22.out I23.out rfl (by decide) _ d1.loose.length _ (by rfl) (HP.out.o2 _ _ _ q1 rfl rfl) ⟨w3.heap.size, 0, none⟩ 1 1 [.int .i64 (k : Int)] (by rfl) rfl (news_one n1) (by intro u hu; rw [List.mem_singleton.1 hu]; rfl) (by decide) HM1.out H8.out (Nat.zero_le _) ?_
      intro g2 c2 w4 a1 a2 a3 _
      have q2 := HP.out.a2 _ _ _ g2 c2 w4 q1 rfl rfl a1 a2 a3
      refine hK.out _ _ (HP.out.sr _ _ _ q2 rfl rfl) (fun hHeld => ?_)
      clear hK K
      simp only [Act.put, List.getElem_toArray, List.getElem_cons_zero, List.getElem_cons_succ, List.setIfInBounds_toArray, List.set_cons_zero, List.set_cons_succ]
      refine wpAnyH_ready (rs := [20]) (by kernel_rfl) (by simp) ?_
      refine AllReadyH.cons rfl (fun K hK => ?_) AllReadyH.nil
      go_simp
      have q3 := q2.alloc (.cells #[.string s] 9)
      have n3 : (w4.alloc (.cells #[.string s] 9)).heap[w4.heap.size]? = some (.cells #[.string s] 9 (0, 0)) := heap_alloc_new w4 _
      refine hK.out _ _ (HP.out.sr _ _ _ q3 rfl rfl) (fun hHeld => ?_)
      clear hK K
      refine wpAnyH_ready (rs := [21]) (by kernel_rfl) (by simp) ?_
      refine AllReadyH.cons rfl (fun K hK => ?_) AllReadyH.nil
      refine step_append_far (by rfl) _ _ _ (by rfl) 0 9 i3 (.string ⟨#[]⟩) 1 16 Try.underlying54 I3.out I31.out I32.out I33.out rfl (by decide) _ d1.loose.length _ (by rfl) (HP.out.o3 _ _ _ q3 rfl rfl) ⟨w4.heap.size, 0, none⟩ 1 1 [.string s] (by rfl) rfl (news_one n3) (by intro u hu; rw [List.mem_singleton.1 hu]; rfl) (by decide) HM1.out H16.out (Nat.zero_le _) ?_
      intro g3 c3 w5 a5 a6 a7 _
      have q9 := HP.out.a3 _ _ _ g3 c3 w5 q3 rfl rfl a5 a6 a7
      refine hK.out _ _ (HP.out.sr _ _ _ q9 rfl rfl) (fun hHeld => ?_)
      clear hK K
      simp only [Act.put, List.getElem_toArray, List.getElem_cons_zero, List.getElem_cons_succ, List.setIfInBounds_toArray, List.set_cons_zero, List.set_cons_succ]
      refine wpAnyH_done (by kernel_rfl) ?_ _
      obtain ⟨r1, r2, r3, r4, r5⟩ := HP.out.fin w5 g2 c2 g3 c3 q9
      change wpAny _ _ _ _ 6 _ _ w5
      refine wpAny_of_held (S := fun _ => True) _ _ _ _ ?_
      have hT : (fun _ : World => True) w5 := trivial
      refine wpAnyH_take (i := 22) (v := ?tv19) rfl (by kernel_rfl) (by kernel_rfl) (by kernel_rfl) (fun _ _ _ h => h) (Or.inl ⟨by rfl, ?th19⟩) (by assumption) ?tr19
      case th19 => (intro w hSw; (try dsimp only at hSw); go_simp; all_goals (with_reducible rfl))
      simp only [Act.put, List.getElem_toArray, List.getElem_cons_zero, List.getElem_cons_succ, List.setIfInBounds_toArray, List.set_cons_zero, List.set_cons_succ]
      refine wpAnyH_take (i := 23) (v := ?tv20) rfl (by kernel_rfl) (by kernel_rfl) (by kernel_rfl) (fun _ _ _ h => h) (Or.inl ⟨by rfl, ?th20⟩) (by assumption) ?tr20
      case th20 => (intro w hSw; (try dsimp only at hSw); go_simp; all_goals (with_reducible rfl))
      simp only [Act.put, List.getElem_toArray, List.getElem_cons_zero, List.getElem_cons_succ, List.setIfInBounds_toArray, List.set_cons_zero, List.set_cons_succ]
      refine wpAnyH_ready (rs := [24]) (by kernel_rfl) (by simp) ?_
      refine AllReadyH.cons rfl (fun K hK => ?_) AllReadyH.nil
      go_simp
      refine hK.out _ _ trivial (fun hT2 => ?_)
      clear hK K
      refine wpAnyH_take (i := 25) (v := ?tv21) rfl (by kernel_rfl) (by kernel_rfl) (by kernel_rfl) (fun _ _ _ h => h) (Or.inl ⟨by rfl, ?th21⟩) (by assumption) ?tr21
      case th21 => (intro w hSw; (try dsimp only at hSw); go_simp; all_goals (with_reducible rfl))
      simp only [Act.put, List.getElem_toArray, List.getElem_cons_zero, List.getElem_cons_succ, List.setIfInBounds_toArray, List.set_cons_zero, List.set_cons_succ]
      refine wpAnyH_take (i := 26) (v := ?tv22) rfl (by kernel_rfl) (by kernel_rfl) (by kernel_rfl) (fun _ _ _ h => h) (Or.inl ⟨by rfl, ?th22⟩) (by assumption) ?tr22
      case th22 => (intro w hSw; (try dsimp only at hSw); go_simp; all_goals (with_reducible rfl))
      simp only [Act.put, List.getElem_toArray, List.getElem_cons_zero, List.getElem_cons_succ, List.setIfInBounds_toArray, List.set_cons_zero, List.set_cons_succ]
      refine wpAnyH_ready (rs := [27]) (by kernel_rfl) (by simp) ?_
      refine AllReadyH.cons rfl (fun K hK => ?_) AllReadyH.nil
      go_simp
      refine hK.out _ _ trivial (fun hT2 => ?_)
      clear hK K
      refine wpAnyH_done (by kernel_rfl) ?_ _
      refine NoPanic.normal ?_
      obtain ⟨F', s1, s2⟩ := r5.out
      have S1 := hid s1
      have S2 := hid s2
      clear s1 s2 r1 r2 r3 r4 r5 q9
      go_wp2
      all_goals (go_ret; exact ⟨rfl, F', S1.out, S2.out⟩)
    · go_simp
      have q2 : RS (rown b F) w3 ((w3.alloc (.cells #[.int .i64 (k : Int)] 3)).alloc (.cells #[.string s] 9)).drew b (rhead { d1 with seen := d1.seen.set k s } F) F (XS { d1 with seen := d1.seen.set k s }) := q1.alloc (.cells #[.string s] 9)
      have n2 : ((w3.alloc (.cells #[.int .i64 (k : Int)] 3)).alloc (.cells #[.string s] 9)).drew.heap[w3.heap.size]? = some (.cells #[.int .i64 (k : Int)] 3 (0, 0)) := (Below.heap_alloc (w3.alloc (.cells #[.int .i64 (k : Int)] 3)) (.cells #[.string s] 9) w3.heap.size (by simp)).trans n1
      have n3 : ((w3.alloc (.cells #[.int .i64 (k : Int)] 3)).alloc (.cells #[.string s] 9)).drew.heap[w3.heap.size + 1]? = some (.cells #[.string s] 9 (0, 0)) := by have e := heap_alloc_new (w3.alloc (.cells #[.int .i64 (k : Int)] 3)) (.cells #[.string s] 9); rw [show (w3.alloc (.cells #[.int .i64 (k : Int)] 3)).heap.size = w3.heap.size + 1 by simp] at e; exact e
      refine hK.out _ _ (HP.out.sr _ _ _ q2 rfl rfl) (fun hHeld => ?_)
      clear hK K
      refine wpAnyH_ready (rs := [8]) (by kernel_rfl) (by simp) ?_
      refine AllReadyH.cons rfl (fun K hK => ?_) AllReadyH.nil
      refine step_append_far (by rfl) _ _ _ (by rfl) 0 3 i2 (.int .i64 0) 1 8 Try.underlying55 I2.out I21.out I22.out I23.out rfl (by decide) _ d1.loose.length _ (by rfl) (HP.out.o2 _ _ _ q2 rfl rfl) ⟨w3.heap.size, 0, none⟩ 1 1 [.int .i64 (k : Int)] (by rfl) rfl (news_one n2) (by intro u hu; rw [List.mem_singleton.1 hu]; rfl) (by decide) HM1.out H8.out (Nat.zero_le _) ?_
      intro g2 c2 w4 a1 a2 a3 _
      have q3 := HP.out.a2 _ _ _ g2 c2 w4 q2 rfl rfl a1 a2 a3
      have n4 : w4.heap[w3.heap.size + 1]? = some (.cells #[.string s] 9 (0, 0)) := (a2.block (w3.heap.size + 1) (by simp) (fun e => by have := q0.lt _ (.inr ⟨2, by omega, (FR.blk_of _ _ _).1 e.symm⟩); simp at this; omega)).trans n3
      refine hK.out _ _ (HP.out.sr _ _ _ q3 rfl rfl) (fun hHeld => ?_)
      clear hK K
      simp only [Act.put, List.getElem_toArray, List.getElem_cons_zero, List.getElem_cons_succ, List.setIfInBounds_toArray, List.set_cons_zero, List.set_cons_succ]
      refine wpAnyH_ready (rs := [21]) (by kernel_rfl) (by simp) ?_
      refine AllReadyH.cons rfl (fun K hK => ?_) AllReadyH.nil
      refine step_append_far (by rfl) _ _ _ (by rfl) 0 9 i3 (.string ⟨#[]⟩) 1 16 Try.underlying54 I3.out I31.out I32.out I33.out rfl (by decide) _ d1.loose.length _ (by rfl) (HP.out.o3 _ _ _ q3 rfl rfl) ⟨w3.heap.size + 1, 0, none⟩ 1 1 [.string s] (by rfl) rfl (news_one n4) (by intro u hu; rw [List.mem_singleton.1 hu]; rfl) (by decide) HM1.out H16.out (Nat.zero_le _) ?_
      intro g3 c3 w5 a5 a6 a7 _
      have q9 := HP.out.a3 _ _ _ g3 c3 w5 q3 rfl rfl a5 a6 a7
      refine hK.out _ _ (HP.out.sr _ _ _ q9 rfl rfl) (fun hHeld => ?_)
      clear hK K
      simp only [Act.put, List.getElem_toArray, List.getElem_cons_zero, List.getElem_cons_succ, List.setIfInBounds_toArray, List.set_cons_zero, List.set_cons_succ]
      refine wpAnyH_done (by kernel_rfl) ?_ _
      obtain ⟨r1, r2, r3, r4, r5⟩ := HP.out.fin w5 g2 c2 g3 c3 q9
      change wpAny _ _ _ _ 6 _ _ w5
      refine wpAny_of_held (S := fun _ => True) _ _ _ _ ?_
      have hT : (fun _ : World => True) w5 := trivial
      refine wpAnyH_take (i := 22) (v := ?tv23) rfl (by kernel_rfl) (by kernel_rfl) (by kernel_rfl) (fun _ _ _ h => h) (Or.inl ⟨by rfl, ?th23⟩) (by assumption) ?tr23
      case th23 => (intro w hSw; (try dsimp only at hSw); go_simp; all_goals (with_reducible rfl))
      simp only [Act.put, List.getElem_toArray, List.getElem_cons_zero, List.getElem_cons_succ, List.setIfInBounds_toArray, List.set_cons_zero, List.set_cons_succ]
      refine wpAnyH_take (i := 23) (v := ?tv24) rfl (by kernel_rfl) (by kernel_rfl) (by kernel_rfl) (fun _ _ _ h => h) (Or.inl ⟨by rfl, ?th24⟩) (by assumption) ?tr24
      case th24 => (intro w hSw; (try dsimp only at hSw); go_simp; all_goals (with_reducible rfl))
      simp only [Act.put, List.getElem_toArray, List.getElem_cons_zero, List.getElem_cons_succ, List.setIfInBounds_toArray, List.set_cons_zero, List.set_cons_succ]
      refine wpAnyH_ready (rs := [24]) (by kernel_rfl) (by simp) ?_
      refine AllReadyH.cons rfl (fun K hK => ?_) AllReadyH.nil
      go_simp
      refine hK.out _ _ trivial (fun hT2 => ?_)
      clear hK K
      refine wpAnyH_take (i := 25) (v := ?tv25) rfl (by kernel_rfl) (by kernel_rfl) (by kernel_rfl) (fun _ _ _ h => h) (Or.inl ⟨by rfl, ?th25⟩) (by assumption) ?tr25
      case th25 => (intro w hSw; (try dsimp only at hSw); go_simp; all_goals (with_reducible rfl))
      simp only [Act.put, List.getElem_toArray, List.getElem_cons_zero, List.getElem_cons_succ, List.setIfInBounds_toArray, List.set_cons_zero, List.set_cons_succ]
      refine wpAnyH_take (i := 26) (v := ?tv26) rfl (by kernel_rfl) (by kernel_rfl) (by kernel_rfl) (fun _ _ _ h => h) (Or.inl ⟨by rfl, ?th26⟩) (by assumption) ?tr26
      case th26 => (intro w hSw; (try dsimp only at hSw); go_simp; all_goals (with_reducible rfl))
      simp only [Act.put, List.getElem_toArray, List.getElem_cons_zero, List.getElem_cons_succ, List.setIfInBounds_toArray, List.set_cons_zero, List.set_cons_succ]
      refine wpAnyH_ready (rs := [27]) (by kernel_rfl) (by simp) ?_
      refine AllReadyH.cons rfl (fun K hK => ?_) AllReadyH.nil
      go_simp
      refine hK.out _ _ trivial (fun hT2 => ?_)
      clear hK K
      refine wpAnyH_done (by kernel_rfl) ?_ _
      refine NoPanic.normal ?_
      obtain ⟨F', s1, s2⟩ := r5.out
      have S1 := hid s1
      have S2 := hid s2
      clear s1 s2 r1 r2 r3 r4 r5 q9
      go_wp2
      all_goals (go_ret; exact ⟨rfl, F', S1.out, S2.out⟩)
  · go_simp
    have q1 : RS (rown b F) w3 (w3.alloc (.cells #[.string s] 9)).drew b (rhead { d1 with seen := d1.seen.set k s } F) F (XS { d1 with seen := d1.seen.set k s }) := q0.alloc (.cells #[.string s] 9)
    have n1 : (w3.alloc (.cells #[.string s] 9)).drew.heap[w3.heap.size]? = some (.cells #[.string s] 9 (0, 0)) := heap_alloc_new w3 _
    refine hK.out _ _ (HP.out.sr _ _ _ q1 rfl rfl) (fun hHeld => ?_)
    clear hK K
    refine wpAnyH_ready (rs := [7]) (by kernel_rfl) (by simp) ?_
    refine AllReadyH.cons rfl (fun K hK => ?_) AllReadyH.nil
    go_simp
    have q2 : RS (rown b F) w3 ((w3.alloc (.cells #[.string s] 9)).alloc (.cells #[.int .i64 (k : Int)] 3)).drew b (rhead { d1 with seen := d1.seen.set k s } F) F (XS { d1 with seen := d1.seen.set k s }) := q1.alloc (.cells #[.int .i64 (k : Int)] 3)
    have n2 : ((w3.alloc (.cells #[.string s] 9)).alloc (.cells #[.int .i64 (k : Int)] 3)).drew.heap[w3.heap.size]? = some (.cells #[.string s] 9 (0, 0)) := (Below.heap_alloc (w3.alloc (.cells #[.string s] 9)) (.cells #[.int .i64 (k : Int)] 3) w3.heap.size (by simp)).trans n1
    have n3 : ((w3.alloc (.cells #[.string s] 9)).alloc (.cells #[.int .i64 (k : Int)] 3)).drew.heap[w3.heap.size + 1]? = some (.cells #[.int .i64 (k : Int)] 3 (0, 0)) := by have e := heap_alloc_new (w3.alloc (.cells #[.string s] 9)) (.cells #[.int .i64 (k : Int)] 3); rw [show (w3.alloc (.cells #[.string s] 9)).heap.size = w3.heap.size + 1 by simp] at e; exact e
    refine hK.out _ _ (HP.out.sr _ _ _ q2 rfl rfl) (fun hHeld => ?_)
    clear hK K
    refine wpAnyH_ready (rs := [8]) (by kernel_rfl) (by simp) ?_
    refine AllReadyH.cons rfl (fun K hK => ?_) AllReadyH.nil
    refine step_append_far (by rfl) _ _ _ (by rfl) 0 3 i2 (.int .i64 0) 1 8 Try.underlying55 I2.out I21.out I22.out I23.out rfl (by decide) _ d1.loose.length _ (by rfl) (HP.out.o2 _ _ _ q2 rfl rfl) ⟨w3.heap.size + 1, 0, none⟩ 1 1 [.int .i64 (k : Int)] (by rfl) rfl (news_one n3) (by intro u hu; rw [List.mem_singleton.1 hu]; rfl) (by decide) HM1.out H8.out (Nat.zero_le _) ?_
    intro g2 c2 w4 a1 a2 a3 _
    have q3 := HP.out.a2 _ _ _ g2 c2 w4 q2 rfl rfl a1 a2 a3
    have n4 : w4.heap[w3.heap.size]? = some (.cells #[.string s] 9 (0, 0)) := (a2.block w3.heap.size (by simp; omega) (fun e => by have := q0.lt _ (.inr ⟨2, by omega, (FR.blk_of _ _ _).1 e.symm⟩); simp at this)).trans n2
    refine hK.out _ _ (HP.out.sr _ _ _ q3 rfl rfl) (fun hHeld => ?_)
    clear hK K
    simp only [Act.put, List.getElem_toArray, List.getElem_cons_zero, List.getElem_cons_succ, List.setIfInBounds_toArray, List.set_cons_zero, List.set_cons_succ]
    refine wpAnyH_ready (rs := [21]) (by kernel_rfl) (by simp) ?_
    refine AllReadyH.cons rfl (fun K hK => ?_) AllReadyH.nil
    refine step_append_far (by rfl) _ _ _ (by rfl) 0 9 i3 (.string ⟨#[]⟩) 1 16 Try.underlying54 I3.out I31.out I32.out I33.out rfl (by decide) _ d1.loose.length _ (by rfl) (HP.out.o3 _ _ _ q3 rfl rfl) ⟨w3.heap.size, 0, none⟩ 1 1 [.string s] (by rfl) rfl (news_one n4) (by intro u hu; rw [List.mem_singleton.1 hu]; rfl) (by decide) HM1.out H16.out (Nat.zero_le _) ?_
    intro g3 c3 w5 a5 a6 a7 _
    have q9 := HP.out.a3 _ _ _ g3 c3 w5 q3 rfl rfl a5 a6 a7
    refine hK.out _ _ (HP.out.sr _ _ _ q9 rfl rfl) (fun hHeld => ?_)
    clear hK K
    simp only [Act.put, List.getElem_toArray, List.getElem_cons_zero, List.getElem_cons_succ, List.setIfInBounds_toArray, List.set_cons_zero, List.set_cons_succ]
    refine wpAnyH_done (by kernel_rfl) ?_ _
    obtain ⟨r1, r2, r3, r4, r5⟩ := HP.out.fin w5 g2 c2 g3 c3 q9
    change wpAny _ _ _ _ 6 _ _ w5
    refine wpAny_of_held (S := fun _ => True) _ _ _ _ ?_
    have hT : (fun _ : World => True) w5 := trivial
    refine wpAnyH_take (i := 22) (v := ?tv27) rfl (by kernel_rfl) (by kernel_rfl) (by kernel_rfl) (fun _ _ _ h => h) (Or.inl ⟨by rfl, ?th27⟩) (by assumption) ?tr27
    case th27 => (intro w hSw; (try dsimp only at hSw); go_simp; all_goals (with_reducible rfl))
    simp only [Act.put, List.getElem_toArray, List.getElem_cons_zero, List.getElem_cons_succ, List.setIfInBounds_toArray, List.set_cons_zero, List.set_cons_succ]
    refine wpAnyH_take (i := 23) (v := ?tv28) rfl (by kernel_rfl) (by kernel_rfl) (by kernel_rfl) (fun _ _ _ h => h) (Or.inl ⟨by rfl, ?th28⟩) (by assumption) ?tr28
    case th28 => (intro w hSw; (try dsimp only at hSw); go_simp; all_goals (with_reducible rfl))
    simp only [Act.put, List.getElem_toArray, List.getElem_cons_zero, List.getElem_cons_succ, List.setIfInBounds_toArray, List.set_cons_zero, List.set_cons_succ]
    refine wpAnyH_ready (rs := [24]) (by kernel_rfl) (by simp) ?_
    refine AllReadyH.cons rfl (fun K hK => ?_) AllReadyH.nil
    go_simp
    refine hK.out _ _ trivial (fun hT2 => ?_)
    clear hK K
    refine wpAnyH_take (i := 25) (v := ?tv29) rfl (by kernel_rfl) (by kernel_rfl) (by kernel_rfl) (fun _ _ _ h => h) (Or.inl ⟨by rfl, ?th29⟩) (by assumption) ?tr29
    case th29 => (intro w hSw; (try dsimp only at hSw); go_simp; all_goals (with_reducible rfl))
    simp only [Act.put, List.getElem_toArray, List.getElem_cons_zero, List.getElem_cons_succ, List.setIfInBounds_toArray, List.set_cons_zero, List.set_cons_succ]
    refine wpAnyH_take (i := 26) (v := ?tv30) rfl (by kernel_rfl) (by kernel_rfl) (by kernel_rfl) (fun _ _ _ h => h) (Or.inl ⟨by rfl, ?th30⟩) (by assumption) ?tr30
    case th30 => (intro w hSw; (try dsimp only at hSw); go_simp; all_goals (with_reducible rfl))
    simp only [Act.put, List.getElem_toArray, List.getElem_cons_zero, List.getElem_cons_succ, List.setIfInBounds_toArray, List.set_cons_zero, List.set_cons_succ]
    refine wpAnyH_ready (rs := [27]) (by kernel_rfl) (by simp) ?_
    refine AllReadyH.cons rfl (fun K hK => ?_) AllReadyH.nil
    go_simp
    refine hK.out _ _ trivial (fun hT2 => ?_)
    clear hK K
    refine wpAnyH_done (by kernel_rfl) ?_ _
    refine NoPanic.normal ?_
    obtain ⟨F', s1, s2⟩ := r5.out
    have S1 := hid s1
    have S2 := hid s2
    clear s1 s2 r1 r2 r3 r4 r5 q9
    go_wp2
    all_goals (go_ret; exact ⟨rfl, F', S1.out, S2.out⟩)

set_option maxHeartbeats 1000000 in
theorem ref_write (w : World) (b : Nat) (F : Nat → FR) (d : SD) (h : RefAt w b F d) (a : Int) (t : ByteArray)
    (hroom : ((d.loose.length + 1) + (d.loose.length + 1) / 4 + 192) * 16 ≤ 281474976710656) : Calls Try.prog 52 #[.pointer (some ⟨b, 0, none⟩), .int .i64 a, .string t] w fun e w' =>
    ∃ F', e = .returned (.int .i64 (d.write a t).1) ∧ RefAt w' b F' (d.write a t).2 ∧ Goes (rown b F) w w' (rown b F') := by
  have c0 := h.c0
  have c4 := h.c4
  cases ha : d.has a
  · have e1 : d.write a t = (1, d) := by unfold SD.write; rw [if_pos ha]
    rw [e1]
    have hh := hid h
    have hb : ¬ (0 ≤ a ∧ a < d.n) := by simpa [SD.has] using ha
    clear h e1 c4 hroom
    by_cases hneg : a < 0
    · have e1 : decide (a < 0) = true := by simpa using hneg
      clear hb
      go_enter Try.func52, Try.ntmps52
      go_wp2
      all_goals (go_ret; first | exact ⟨F, rfl, hh.out, Goes.refl _ _⟩ | exact ⟨rfl, F, hh.out, Goes.refl _ _⟩)
    · have e1 : decide (a < 0) = false := by simpa using hneg
      have e3 : decide ((d.seen.length : Int) ≤ a) = true := by simp; unfold SD.n at hb; omega
      clear hb
      go_enter Try.func52, Try.ntmps52
      go_wp2
      all_goals (go_ret; first | exact ⟨F, rfl, hh.out, Goes.refl _ _⟩ | exact ⟨rfl, F, hh.out, Goes.refl _ _⟩)
  · have hb : 0 ≤ a ∧ a < d.n := by simpa [SD.has] using ha
    obtain ⟨k, rfl⟩ : ∃ k : Nat, a = k := ⟨a.toNat, by omega⟩
    have hk2 : k < d.seen.length := by have := hb.2; unfold SD.n at this; omega
    have e1 : decide ((k : Int) < 0) = false := by simp
    have e3 : decide ((d.seen.length : Int) ≤ (k : Int)) = false := by simp; omega
    have e4 : decide (d.seen.length ≤ k) = false := by simp; omega
    by_cases ht : 64 < t.size
    · have e5 : d.write k t = (2, d) := by unfold SD.write; rw [ha, if_neg (by simp), if_pos ht]
      rw [e5]
      have hh := hid h
      have t1 : decide ((64 : Int) < (t.size : Int)) = true := by simp; omega
      have t2 : decide (64 < t.size) = true := by simp; omega
      clear h e5 c4 hroom ha hb
      go_enter Try.func52, Try.ntmps52
      go_wp2
      all_goals (go_ret; first | exact ⟨F, rfl, hh.out, Goes.refl _ _⟩ | exact ⟨rfl, F, hh.out, Goes.refl _ _⟩)
    · cases hd : d.down
      · have e5 : d.write k t = (0, { d.burn with seen := d.burn.seen.set k (pad t), loose := d.burn.loose ++ [(k, pad t)] }) := by unfold SD.write; rw [ha, if_neg (by simp), if_neg ht, hd, if_neg (by simp)]; rfl
        rw [e5]
        exact ref_write_ok w b F d h k (by unfold SD.n; omega) t (by omega) hd hroom
      · have e5 : d.write k t = (13, d) := by unfold SD.write; rw [ha, if_neg (by simp), if_neg ht, hd, if_pos rfl]
        rw [e5]
        have hr := rl_down d
        rw [hd] at hr
        generalize rl d = L at *
        have hh := hid h
        have t1 : decide ((64 : Int) < (t.size : Int)) = false := by simp; omega
        have t2 : decide (64 < t.size) = false := by simp; omega
        clear h e5 hroom ha hb hd
        go_enter Try.func52, Try.ntmps52
        go_wp2
        all_goals (go_ret; first | exact ⟨F, rfl, hh.out, Goes.refl _ _⟩ | exact ⟨rfl, F, hh.out, Goes.refl _ _⟩)

end Go.Proofs.Ythfpinjegfgeiaa
