/- quirref.LeafRead, walked: the document's own answer is what the plain function reads. Condition: the text's length. -/
import Derived.Test.YtiaddijibaclkaaLeafRefRead
import Derived.Test.YtiaddijibaclkaaLeafEq
namespace Go.Proofs.Ytiaddijibaclkaa.PLeaf
open Go Go.RowKit
set_option maxRecDepth 100000

theorem rr_in {w w0 wr : World} {a : Option Addr} {n c : Nat} {A : List Lf.Sl} (h : RR w w0 wr (.slice a n c) A) (hn : A.length ≤ 40) (ht : Txs A) : PgIn wr a A := h.own.inp (by omega) ht

set_option maxHeartbeats 8000000 in
theorem refRead_any (s : ByteArray) (w : World) (hs : s.size ≤ 140737488355328) :
    Calls Try.prog 54 #[.string s] w (RfOut w (Lf.read s.data.toList)) := by
  have hb := PCode.Nb.get_bound s.data.toList 0 0 (by omega) (by omega)
  obtain ⟨x, t, e, hG⟩ : ∃ x t e, PCode.Nb.getN 0 0 s.data.toList = (x, t, e) := ⟨_, _, _, rfl⟩
  have HC : Hid (∀ W, Calls Try.prog 9 #[.string s] W fun r w' => r = .returned (.tuple #[.int .u64 (x : Int), .int .i64 (t : Int), .int .i64 (e : Int)]) ∧ w' = W) := fun W => PCode.refGet_at s W x t e (by unfold maxLen; omega) hG
  rw [hG] at hb
  simp only at hb
  rw [Lf.size_list] at hb
  obtain ⟨hb1, hb2, hb3, hb4⟩ := hb
  have hs' : (s.size : Int) ≤ 140737488355328 := by omega
  by_cases he : e = 0
  · subst he
    by_cases hx : 40 < x
    · have hx' : (40 : Int) < (x : Int) := by omega
      have HI := hid (Lf.read_bad (s := s.data.toList) (.inr (by rw [hG]; exact hx)))
      generalize Lf.read s.data.toList = I at *
      clear hG
      go_enter Try.func54, Try.ntmps54
      go_wp2_with fail
      refine (HC.out _).mono ?_
      rintro r w1 ⟨rfl, rfl⟩
      go_wp2_with fail
      refine bodyPost_ret (refRead_result (box1 (Below.refl _ _)) _ rfl) rfl ?_
      exact ⟨_, by rw [HI.out]; rfl, by rw [HI.out]; exact OwnPg.nil _ _, bx _ _⟩
    · have hx40 : x ≤ 40 := by omega
      have hx' : ¬ (40 : Int) < (x : Int) := by omega
      have hx2 : (x : Int) ≤ 40 := by omega
      have HG := hid hG
      obtain ⟨I, hI⟩ : ∃ I, I = Lf.read s.data.toList := ⟨_, rfl⟩
      rw [← hI]
      have HI := hid hI
      obtain ⟨i0, hi, hz0, hz1, hz2⟩ := info_parts slot_info
      have ht : (t : Int) ≤ (s.size : Int) := by omega
      have htn : t ≤ s.size := by omega
      clear hI hG
      go_enter Try.func54, Try.ntmps54
      go_wp2_with fail
      refine (HC.out _).mono ?_
      rintro r w1 ⟨rfl, rfl⟩
      clear HC
      have BX := hid (Bx1.mk' w (.slice none 0 0) 73)
      go_wp2_with fail
      have R0 : Hid (RR w (w.alloc (.cells #[.slice none 0 0] 73)) ((w.alloc (.cells #[.slice none 0 0] 73)).alloc (.cells #[.slice none 0 0] 73)) (.slice none 0 0) []) :=
        ⟨by simp, bx _ _, by have := heap_alloc_new (w.alloc (.cells #[.slice none 0 0] 73)) (.cells #[.slice none 0 0] 73); rw [World.size_alloc] at this; exact this, OwnPg.nil _ _⟩
      generalize (w.alloc (.cells #[.slice none 0 0] 73)).alloc (.cells #[.slice none 0 0] 73) = w2 at *
      generalize w.alloc (.cells #[.slice none 0 0] 73) = w0 at *
      go_loopw [5, 26] (fun q i wr => ∃ (A : List Lf.Sl) (v : Value) (k : Nat), A.length ≤ x ∧ k ≤ s.size ∧ q = .int .i64 (k : Int) ∧ i = .int .u64 (A.length : Int) ∧ Hid (RR w w0 wr v A) ∧ Hid (Lf.readN x (s.data.toList.drop t) = Lf.pre A (Lf.readN (x - A.length) (s.data.toList.drop k)))) (fun _ i _ => x - (intOf i).toNat)
      case atStart => exact ⟨[], _, t, Nat.zero_le _, htn, rfl, rfl, R0, (by show _ = _; rw [Lf.pre_nil]; rfl)⟩
      case round =>
        obtain ⟨A, v, k, hA, hk, rfl, rfl, hR, hM⟩ := hrel
        clear R0
        obtain ⟨a3, c3, rfl, hp3, _⟩ := hR.out.own.at_
        by_cases hlt : A.length < x
        · have k1 : (A.length : Int) < (x : Int) := by omega
          obtain ⟨m', hm'⟩ : ∃ m', x - A.length = m' + 1 := ⟨x - A.length - 1, by omega⟩
          have hM' := hM.out
          rw [hm'] at hM'
          have kk0 : (0 : Int) ≤ (k : Int) := by omega
          have kk1 : (k : Int) ≤ (s.size : Int) := by omega
          have hsl : ∀ W : World, (Instr.slice 9 (.string s) (some (.int .i64 (k : Int))) none none).run Try.prog W = .ok (.string (s.extract k s.size)) W := fun W => by
            have h := run_slice_string_l (P := Try.prog) W 9 s Try.underlying9 .i64 (k : Int) (by omega) (by omega)
            rw [Int.toNat_natCast] at h
            exact h
          have eR : (s.extract k s.size).data.toList = s.data.toList.drop k := by rw [cut_list, List.take_of_length_le (by rw [List.length_drop, Lf.size_list]; omega)]
          have hRs : (s.extract k s.size).size = s.size - k := by rw [ByteArray.size_extract]; omega
          have hgb := PCode.Nb.get_bound (s.extract k s.size).data.toList 0 0 (by omega) (by omega)
          obtain ⟨m, j, e, hGR⟩ : ∃ m j e, PCode.Nb.getN 0 0 (s.extract k s.size).data.toList = (m, j, e) := ⟨_, _, _, rfl⟩
          have HCR : Hid (∀ W, Calls Try.prog 9 #[.string (s.extract k s.size)] W fun r w' => r = .returned (.tuple #[.int .u64 (m : Int), .int .i64 (j : Int), .int .i64 (e : Int)]) ∧ w' = W) := fun W => PCode.refGet_at _ W m j e (by unfold maxLen; omega) hGR
          rw [hGR] at hgb
          simp only at hgb
          rw [Lf.size_list, hRs] at hgb
          obtain ⟨gb1, gb2, gb3, gb4⟩ := hgb
          rw [eR] at hGR
          generalize s.extract k s.size = R at *
          have hlR : (s.data.toList.drop k).length = s.size - k := by rw [List.length_drop, Lf.size_list]
          by_cases he : e = 0
          · subst he
            by_cases hbig : 1000 < m
            · have hbig' : (1000 : Int) < (m : Int) := by omega
              have HI0 := hid (HI.out.trans (Lf.read_big HG.out hM' hGR hbig))
              clear hM' hM hp3 hGR eR hRs hlR gb1 gb2 gb3 gb4
              go_wp2_with fail
              refine (HCR.out _).mono ?_
              rintro r w3 ⟨rfl, rfl⟩
              have c1 := BX.out.c0 hR.out.below
              have f1 := BX.out.fz hR.out.below
              go_wp2_with fail
              refine bodyPost_ret (refRead_result (BX.out.out hR.out.below _) _ rfl) rfl ?_
              exact ⟨_, by rw [HI0.out]; rfl, by rw [HI0.out]; exact OwnPg.nil _ _, BX.out.end_ hR.out.below _⟩
            · have hsm : (m : Int) ≤ 1000 := by omega
              have hsm' : ¬ (1000 : Int) < (m : Int) := by omega
              by_cases hm0 : m = 0
              · subst hm0
                rw [Lf.readN_some (Lf.getS_zero hGR), List.drop_drop] at hM'
                have el : (A ++ [Lf.none']).length = A.length + 1 := by simp
                rw [show m' = x - (A ++ [Lf.none']).length by omega] at hM'
                have HM2 := hid hM'
                have HL := hid el
                have hjs : k + j ≤ s.size := by omega
                clear hM' hM hp3 hGR eR hRs hlR gb1 gb2 gb3 gb4 el
                have q1 : (k : Int) + (j : Int) ≤ (s.size : Int) := by omega
                have XB := hid (hR.out.keep (bx wr (.cells #[.bool false, .string ⟨#[]⟩] 90)))
                have c7 := XB.out.c7
                have SC := hid (slot_cells (wr.alloc (.cells #[.bool false, .string ⟨#[]⟩] 90)) false ⟨#[]⟩)
                rw [World.size_alloc] at SC
                go_wp2_with fail
                refine (HCR.out _).mono ?_
                rintro r w3 ⟨rfl, rfl⟩
                go_wp2_with (at_builtin; refine wpList_append_own _ rfl _ _ 71 rfl (w.heap.size + 2) 90 i0 (.agg #[.bool false, .string ⟨#[]⟩]) 2 24 Try.underlying71 hi hz0 hz1 hz2 rfl (by decide) _ _ _ rfl (XB.out.own.keepAlloc _) ⟨w3.heap.size + 1, 0, none⟩ 1 1 (sc ⟨false, ⟨#[]⟩⟩) rfl rfl ?qc2 ?qc3 ?qc4 ?qc5 ?qc6 ?_)
                case qc2 => exact SC.out
                case qc3 => exact sc_one _
                case qc4 => unfold maxLen; omega
                case qc5 => omega
                case qc6 => have := XB.out.big; simp only [World.size_alloc] at this ⊢; omega
                intro v' w5 hown hgrow _
                obtain ⟨a5, c5, rfl, _⟩ := (OwnPg.grows hown).at_
                have P5 := hid (XB.out.push (bx _ _) (OwnPg.grows hown) hgrow)
                rw [List.length_append] at P5
                have hne5 : some (w.heap.size + 1) ≠ (Value.slice a3 A.length c3).ownBlock := fun e => by have := (XB.out.own.lt _ e.symm).1; omega
                have b5 : w5.heap[w.heap.size + 1]? = some (.cells #[.slice a3 A.length c3] 73 (0, 0)) := (hgrow.block _ (by have := XB.out.big; simp only [World.size_alloc] at this ⊢; omega) hne5).trans ((XB.out.keep (bx _ _)).pbox)
                have c75 : w5.cell? ⟨w.heap.size + 1, 0, none⟩ = some (.slice a3 A.length c3) := by rw [cell_of_row w5 _ _ _ _ _ b5]; rfl
                have f75 : w5.frozen? ⟨w.heap.size + 1, 0, none⟩ = false := by simp [World.frozen?, b5]
                clear hown hgrow XB hne5 b5 SC c7
                go_wp2_with fail
                go_roundw
                case rel => exact ⟨A ++ [Lf.none'], _, k + j, by rw [HL.out]; omega, hjs, by go_num, by rw [HL.out]; go_num, P5, HM2⟩
                case measure => simp [intOf]; omega
              · obtain ⟨y, rfl⟩ : ∃ y, m = y + 1 := ⟨m - 1, by omega⟩
                by_cases hy0 : y = 0
                · subst hy0
                  have hgs := Lf.getS_fit hGR (by omega)
                  rw [List.take_zero, Nat.add_zero, show Lf.mk [] = ⟨#[]⟩ from rfl] at hgs
                  rw [Lf.readN_some hgs, List.drop_drop] at hM'
                  have el : (A ++ [(⟨true, ⟨#[]⟩⟩ : Lf.Sl)]).length = A.length + 1 := by simp
                  rw [show m' = x - (A ++ [(⟨true, ⟨#[]⟩⟩ : Lf.Sl)]).length by omega] at hM'
                  have HM2 := hid hM'
                  have HL := hid el
                  have hjs : k + j ≤ s.size := by omega
                  clear hM' hM hp3 hGR eR hRs hlR gb1 gb2 gb3 gb4 el hgs
                  have q1 : (k : Int) + (j : Int) ≤ (s.size : Int) := by omega
                  have XB := hid (hR.out.keep (bx wr (.cells #[.bool true, .string ⟨#[]⟩] 90)))
                  have c7 := XB.out.c7
                  have SC := hid (slot_cells (wr.alloc (.cells #[.bool true, .string ⟨#[]⟩] 90)) true ⟨#[]⟩)
                  rw [World.size_alloc] at SC
                  go_wp2_with fail
                  refine (HCR.out _).mono ?_
                  rintro r w3 ⟨rfl, rfl⟩
                  go_wp2_with (at_builtin; refine wpList_append_own _ rfl _ _ 71 rfl (w.heap.size + 2) 90 i0 (.agg #[.bool false, .string ⟨#[]⟩]) 2 24 Try.underlying71 hi hz0 hz1 hz2 rfl (by decide) _ _ _ rfl (XB.out.own.keepAlloc _) ⟨w3.heap.size + 1, 0, none⟩ 1 1 (sc ⟨true, ⟨#[]⟩⟩) rfl rfl ?qc2 ?qc3 ?qc4 ?qc5 ?qc6 ?_)
                  case qc2 => exact SC.out
                  case qc3 => exact sc_one _
                  case qc4 => unfold maxLen; omega
                  case qc5 => omega
                  case qc6 => have := XB.out.big; simp only [World.size_alloc] at this ⊢; omega
                  intro v' w5 hown hgrow _
                  obtain ⟨a5, c5, rfl, _⟩ := (OwnPg.grows hown).at_
                  have P5 := hid (XB.out.push (bx _ _) (OwnPg.grows hown) hgrow)
                  rw [List.length_append] at P5
                  have hne5 : some (w.heap.size + 1) ≠ (Value.slice a3 A.length c3).ownBlock := fun e => by have := (XB.out.own.lt _ e.symm).1; omega
                  have b5 : w5.heap[w.heap.size + 1]? = some (.cells #[.slice a3 A.length c3] 73 (0, 0)) := (hgrow.block _ (by have := XB.out.big; simp only [World.size_alloc] at this ⊢; omega) hne5).trans ((XB.out.keep (bx _ _)).pbox)
                  have c75 : w5.cell? ⟨w.heap.size + 1, 0, none⟩ = some (.slice a3 A.length c3) := by rw [cell_of_row w5 _ _ _ _ _ b5]; rfl
                  have f75 : w5.frozen? ⟨w.heap.size + 1, 0, none⟩ = false := by simp [World.frozen?, b5]
                  clear hown hgrow XB hne5 b5 SC c7
                  go_wp2_with fail
                  go_roundw
                  case rel => exact ⟨A ++ [⟨true, ⟨#[]⟩⟩], _, k + j, by rw [HL.out]; omega, hjs, by go_num, by rw [HL.out]; go_num, P5, HM2⟩
                  case measure => simp [intOf]; omega
                · have hy1 : (1 : Int) < ((y + 1 : Nat) : Int) := by omega
                  have hy2 : (y : Int) ≤ 999 := by omega
                  have hy4 : (1 : Int) < (y : Int) + 1 := by omega
                  have hyb : ((y : Int) + 1 != 0) = true := by simp; omega
                  have hy5 : 0 < y := by omega
                  have hy6 : 1 < y + 1 := by omega
                  have hy3 : (0 : Int) < (y : Int) := by omega
                  by_cases hsh : s.size - k - j < y
                  · rw [Lf.readN_none (Lf.getS_short hGR (by omega))] at hM'
                    have HI0 := hid (HI.out.trans (Lf.read_no HG.out hM'))
                    have q1 : (k : Int) + (j : Int) ≤ (s.size : Int) := by omega
                    have q2 : (s.size : Int) - ((k : Int) + (j : Int)) < (y : Int) := by omega
                    have X1 := hid (hR.out.keep (bx wr (.cells #[.bool true, .string ⟨#[]⟩] 90)))
                    have c1 := BX.out.c0 X1.out.below
                    have f1 := BX.out.fz X1.out.below
                    clear hM' hM hp3 hGR eR hRs hlR gb1 gb2 gb3 gb4 hsh
                    go_wp2_with fail
                    refine (HCR.out _).mono ?_
                    rintro r w3 ⟨rfl, rfl⟩
                    go_wp2_with fail
                    refine bodyPost_ret (refRead_result (BX.out.out X1.out.below _) _ rfl) rfl ?_
                    exact ⟨_, by rw [HI0.out]; rfl, by rw [HI0.out]; exact OwnPg.nil _ _, BX.out.end_ X1.out.below _⟩
                  · have hgs := Lf.getS_fit hGR (by omega)
                    have q3 : ¬ (s.size : Int) - ((k : Int) + (j : Int)) < (y : Int) := by omega
                    have eQ : Lf.mk (((s.data.toList.drop k).drop j).take y) = s.extract (k + j) (k + j + y) := Lf.bytes_eq (by rw [cut_list, Nat.add_sub_cancel_left, List.drop_drop]; rfl)
                    rw [eQ] at hgs
                    rw [Lf.readN_some hgs, List.drop_drop] at hM'
                    have hsl2 : ∀ W : World, (Instr.slice 9 (.string s) (some (.int .i64 ((k : Int) + (j : Int)))) (some (.int .i64 ((k : Int) + (j : Int) + ((y : Int) + 1) - 1))) none).run Try.prog W = .ok (.string (s.extract (k + j) (k + j + y))) W := fun W => by
                      have h := run_slice_string (P := Try.prog) W 9 s .i64 .i64 ((k : Int) + (j : Int)) ((k : Int) + (j : Int) + ((y : Int) + 1) - 1) Try.underlying9 (by omega) (by omega) (by omega)
                      rw [show ((k : Int) + (j : Int)).toNat = k + j from by omega, show ((k : Int) + (j : Int) + ((y : Int) + 1) - 1).toNat = k + j + y from by omega] at h
                      exact h
                    generalize s.extract (k + j) (k + j + y) = Q at *
                    have el : (A ++ [(⟨true, Q⟩ : Lf.Sl)]).length = A.length + 1 := by simp
                    rw [show m' = x - (A ++ [(⟨true, Q⟩ : Lf.Sl)]).length by omega] at hM'
                    have HM2 := hid hM'
                    have HL := hid el
                    have hjs : k + (j + y) ≤ s.size := by omega
                    have q4 : (k : Int) + (j : Int) + (y : Int) ≤ (s.size : Int) := by omega
                    clear hM' hM hp3 hGR eR hRs hlR gb1 gb2 gb3 gb4 el hgs eQ hsh
                    have q1 : (k : Int) + (j : Int) ≤ (s.size : Int) := by omega
                    have XB := hid (hR.out.keep (bx wr (.cells #[.bool true, .string Q] 90)))
                    have c7 := XB.out.c7
                    have SC := hid (slot_cells (wr.alloc (.cells #[.bool true, .string Q] 90)) true Q)
                    rw [World.size_alloc] at SC
                    go_wp2_with fail
                    refine (HCR.out _).mono ?_
                    rintro r w3 ⟨rfl, rfl⟩
                    go_wp2_with (at_builtin; refine wpList_append_own _ rfl _ _ 71 rfl (w.heap.size + 2) 90 i0 (.agg #[.bool false, .string ⟨#[]⟩]) 2 24 Try.underlying71 hi hz0 hz1 hz2 rfl (by decide) _ _ _ rfl (XB.out.own.keepAlloc _) ⟨w3.heap.size + 1, 0, none⟩ 1 1 (sc ⟨true, Q⟩) rfl rfl ?qc2 ?qc3 ?qc4 ?qc5 ?qc6 ?_)
                    case qc2 => exact SC.out
                    case qc3 => exact sc_one _
                    case qc4 => unfold maxLen; omega
                    case qc5 => omega
                    case qc6 => have := XB.out.big; simp only [World.size_alloc] at this ⊢; omega
                    intro v' w5 hown hgrow _
                    obtain ⟨a5, c5, rfl, _⟩ := (OwnPg.grows hown).at_
                    have P5 := hid (XB.out.push (bx _ _) (OwnPg.grows hown) hgrow)
                    rw [List.length_append] at P5
                    have hne5 : some (w.heap.size + 1) ≠ (Value.slice a3 A.length c3).ownBlock := fun e => by have := (XB.out.own.lt _ e.symm).1; omega
                    have b5 : w5.heap[w.heap.size + 1]? = some (.cells #[.slice a3 A.length c3] 73 (0, 0)) := (hgrow.block _ (by have := XB.out.big; simp only [World.size_alloc] at this ⊢; omega) hne5).trans ((XB.out.keep (bx _ _)).pbox)
                    have c75 : w5.cell? ⟨w.heap.size + 1, 0, none⟩ = some (.slice a3 A.length c3) := by rw [cell_of_row w5 _ _ _ _ _ b5]; rfl
                    have f75 : w5.frozen? ⟨w.heap.size + 1, 0, none⟩ = false := by simp [World.frozen?, b5]
                    clear hown hgrow XB hne5 b5 SC c7
                    go_wp2_with fail
                    go_roundw
                    case rel => exact ⟨A ++ [⟨true, Q⟩], _, k + (j + y), by rw [HL.out]; omega, hjs, by go_num, by rw [HL.out]; go_num, P5, HM2⟩
                    case measure => simp [intOf]; omega
          · have he' : ((e : Int) != 0) = true := by simp; omega
            rw [Lf.readN_none (Lf.getS_bad hGR he)] at hM'
            have HI0 := hid (HI.out.trans (Lf.read_no HG.out hM'))
            clear hM' hM hp3 hGR eR hRs hlR gb1 gb2 gb3 gb4
            go_wp2_with fail
            refine (HCR.out _).mono ?_
            rintro r w3 ⟨rfl, rfl⟩
            have c1 := BX.out.c0 hR.out.below
            have f1 := BX.out.fz hR.out.below
            go_wp2_with fail
            refine bodyPost_ret (refRead_result (BX.out.out hR.out.below _) _ rfl) rfl ?_
            exact ⟨_, by rw [HI0.out]; rfl, by rw [HI0.out]; exact OwnPg.nil _ _, BX.out.end_ hR.out.below _⟩
        · obtain rfl : x = A.length := by omega
          have j1 : decide ((A.length : Int) < (A.length : Int)) = false := by simp
          have hM' := hM.out
          rw [Nat.sub_self, Lf.readN] at hM'
          simp only [Lf.pre, Option.map_some, List.append_nil] at hM'
          have hTx : Txs A := by
            intro y hy
            have h1 := Lf.text_le A y hy
            have h2 := (Lf.readN_only _ _ _ _ hM').2.1
            have h3 : (s.data.toList.drop t).length = (Lf.body A).length + (s.data.toList.drop k).length := by conv => lhs; rw [h2, List.length_append]
            rw [List.length_drop, Lf.size_list] at h3
            omega
          have PI := hid (rr_in hR.out hx40 hTx)
          have KErr := hid (refErr_any wr a3 c3 A PI.out)
          have c7 := hR.out.c7
          have HM0 := hid hM'
          have HTx := hid hTx
          clear hM' hM hp3 hTx
          by_cases hc : Lf.check A = 0
          · have KT := hid fun W (hW : PgIn W a3 A) => refText_any W a3 c3 A hW.at_ (by omega) hW.txs (Lf.check_ok hc).2.1
            rw [hc] at KErr
            by_cases hsame : Lf.mk (Lf.bytes A) = s
            · have hI1 : I = some A := by
                rw [HI.out, ← hsame]
                exact Lf.read_bytes hc
              have HI1 := hid hI1
              rw [hsame] at KT
              have hss := str_same (rfl : s = s)
              clear hI1 hsame hc HI HM0
              go_wp2_with fail
              refine KErr.out.mono ?_
              rintro r w3 ⟨rfl, hb⟩
              have R3 := hid (hR.out.keep hb)
              have c73 := R3.out.c7
              have P3 := hid (PI.out.below hb)
              clear hb KErr c7
              go_wp2_with fail
              refine (KT.out _ P3.out).mono ?_
              rintro r w4 ⟨rfl, hb⟩
              have R4 := hid (R3.out.keep hb)
              have c74 := R4.out.c7
              have c1 := BX.out.c0 R4.out.below
              have f1 := BX.out.fz R4.out.below
              clear hb R3 c73 P3
              go_wp2_with fail
              refine bodyPost_ret (refRead_result (BX.out.out R4.out.below _) _ rfl) rfl ?_
              exact ⟨_, by rw [HI1.out]; rfl, by rw [HI1.out]; exact BX.out.own (R4.out.own.lower (by have := BX.out.size; omega)), BX.out.end_ R4.out.below _⟩
            · have hI1 : I = none := by
                rw [HI.out]
                refine Lf.read_far HG.out HM0.out (fun e => hsame ?_)
                rw [e.2]
                exact Lf.mk_back s
              have HI1 := hid hI1
              have hss := str_other hsame
              have hss2 : ((Lf.mk (Lf.bytes A)).toList != s.toList) = true := by unfold bne; rw [hss]; rfl
              generalize Lf.mk (Lf.bytes A) = Z at *
              clear hI1 hsame hc HI HM0
              go_wp2_with fail
              refine KErr.out.mono ?_
              rintro r w3 ⟨rfl, hb⟩
              have R3 := hid (hR.out.keep hb)
              have c73 := R3.out.c7
              have P3 := hid (PI.out.below hb)
              clear hb KErr c7
              go_wp2_with fail
              refine (KT.out _ P3.out).mono ?_
              rintro r w4 ⟨rfl, hb⟩
              have R4 := hid (R3.out.keep hb)
              have c1 := BX.out.c0 R4.out.below
              have f1 := BX.out.fz R4.out.below
              clear hb R3 c73 P3
              go_wp2_with fail
              refine bodyPost_ret (refRead_result (BX.out.out R4.out.below _) _ rfl) rfl ?_
              exact ⟨_, by rw [HI1.out]; rfl, by rw [HI1.out]; exact OwnPg.nil _ _, BX.out.end_ R4.out.below _⟩
          · have hI1 : I = none := by
              rw [HI.out]
              exact Lf.read_far HG.out HM0.out (fun e => hc e.1)
            have HI1 := hid hI1
            have hcl := Lf.check_le A
            generalize Lf.check A = C at *
            have hne : ((C : Int) != 0) = true := by simp; omega
            clear hI1 hc HI HM0
            go_wp2_with fail
            refine KErr.out.mono ?_
            rintro r w3 ⟨rfl, hb⟩
            have R3 := hid (hR.out.keep hb)
            have c1 := BX.out.c0 R3.out.below
            have f1 := BX.out.fz R3.out.below
            clear hb KErr c7
            go_wp2_with fail
            refine bodyPost_ret (refRead_result (BX.out.out R3.out.below _) _ rfl) rfl ?_
            exact ⟨_, by rw [HI1.out]; rfl, by rw [HI1.out]; exact OwnPg.nil _ _, BX.out.end_ R3.out.below _⟩
  · have he' : ((e : Int) != 0) = true := by simp; omega
    have HI := hid (Lf.read_bad (s := s.data.toList) (.inl (by rw [hG]; exact he)))
    generalize Lf.read s.data.toList = I at *
    clear hG
    go_enter Try.func54, Try.ntmps54
    go_wp2_with fail
    refine (HC.out _).mono ?_
    rintro r w1 ⟨rfl, rfl⟩
    go_wp2_with fail
    refine bodyPost_ret (refRead_result (box1 (Below.refl _ _)) _ rfl) rfl ?_
    exact ⟨_, by rw [HI.out]; rfl, by rw [HI.out]; exact OwnPg.nil _ _, bx _ _⟩

end Go.Proofs.Ytiaddijibaclkaa.PLeaf
