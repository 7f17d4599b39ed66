/- The document's own log: recordSectors, walked. -/
import Derived.Test.YthfpinjegfgeiaaWalRefHead
import Derived.Deep.RegionLaw
namespace Go.Proofs.Ythfpinjegfgeiaa
open Go Go.RowKit
set_option maxRecDepth 100000

set_option maxHeartbeats 4000000 in
theorem recordSectors_any (t : ByteArray) (e n : Int) (w : World) (ht : t.size ≤ 300) (he : Wl.I64 e) (hn : Wl.I64 n) :
    Calls Try.prog 69 #[.int .i64 e, .int .i64 n, .string t] w fun r w' =>
      ∃ g c, r = .returned (.slice (some ⟨g, 0, none⟩) (Wl.secsOf e n t.data.toList).length c) ∧ TxAt w' g 0 c ((Wl.secsOf e n t.data.toList).map ba) ∧ w.heap.size ≤ g ∧ Below w.heap.size w w' := by
  have H1 := fun W => PCode.refText_any t W (by omega)
  have ec : (⟨(PCode.Nb.natB t.size).toArray⟩ : ByteArray) ++ t = ba (PCode.Nb.natB t.data.toList.length ++ t.data.toList) := by
    apply bytes_eq
    rw [app_list, ba_list, size_list]
  rw [ec] at H1
  have hnb : (PCode.Nb.natB t.size).length ≤ 10 := PCode.Nb.natB_len10 t.size (by omega)
  have H2 := fun W => PFold.refPut_fits (ba (PCode.Nb.natB t.data.toList.length ++ t.data.toList)) W (by rw [ba_size, List.length_append, size_list]; omega)
  rw [fold_put] at H2
  have HB : Wl.sumF (PCode.Nb.natB t.data.toList.length ++ t.data.toList) = Wl.bytesOf t.data.toList := rfl
  rw [HB] at H2
  have hbl := Wl.bytes_len t.data.toList
  rw [size_list] at hbl
  obtain ⟨f0, hf0, hsec⟩ := Wl.secs_cons e n t.data.toList
  have hsne : Wl.secsOf e n t.data.toList ≠ [] := by rw [hsec]; simp
  have hS : Wl.secsOf e n t.data.toList = Wl.cut (Wl.headB 2 e n) (Wl.headB 1 e n) (Wl.bytesOf t.data.toList).length (Wl.bytesOf t.data.toList) := rfl
  have hb2 : (Wl.bytesOf t.data.toList).length ≤ 320 := by omega
  have K1 := fun W => headOf_any 1 e n W he hn
  have K2 := fun W => headOf_any 2 e n W he hn
  have hd1 := Wl.head_len 1 e n he hn
  have hd2 := Wl.head_len 2 e n he hn
  generalize Wl.secsOf e n t.data.toList = S at *
  generalize Wl.bytesOf t.data.toList = b at *
  generalize ba (PCode.Nb.natB t.data.toList.length ++ t.data.toList) = cc at *
  generalize Wl.headB 1 e n = h1 at *
  generalize Wl.headB 2 e n = h2 at *
  clear ec HB hsec hbl hnb
  have H1' := hid H1
  have H2' := hid H2
  have K1' : Hid (∀ W, Calls Try.prog 81 #[.int .u8 1, .int .i64 e, .int .i64 n] W fun r w' => r = .returned (.string (ba h1)) ∧ Below W.heap.size W w') := K1
  have K2' : Hid (∀ W, Calls Try.prog 81 #[.int .u8 2, .int .i64 e, .int .i64 n] W fun r w' => r = .returned (.string (ba h2)) ∧ Below W.heap.size W w') := K2
  have HS := hid hS
  have HN := hid hsne
  obtain ⟨i0, hi, hz0, hz1, hz2⟩ := info_parts tx_info
  clear H1 H2 K1 K2 hS hsne hf0
  go_enter Try.func69, Try.ntmps69
  go_wp2_with fail
  refine (H1'.out _).mono ?_
  rintro r w1 ⟨rfl, hb1⟩
  go_wp2_with fail
  refine (H2'.out _).mono ?_
  rintro r w2 ⟨rfl, hb2⟩
  have B3 := hid (below_tr hb1 hb2)
  clear hb1 hb2 H1' H2'
  go_wp2_with fail
  go_loopw [7, 9] (fun rest v wr => ∃ (D : List (List UInt8)) (r : List UInt8) (f : Nat), rest = .string (ba r) ∧ wr.ownsRow w.heap.size 9 1 v D.length ((D.map ba).map Value.string) ∧ Hid (S = D ++ Wl.cut h2 (if D.length = 0 then h1 else h2) f r) ∧ r.length ≤ f ∧ D.length + r.length ≤ 320 ∧ Hid (Below w.heap.size w wr)) (fun rest _ _ => (strOf rest).size)
  case atStart => exact ⟨[], b, b.length, rfl, World.ownsRow_nil _ _ _ _, by show _ = _; rw [HS.out]; rfl, Nat.le_refl _, by simp; omega, B3⟩
  case round =>
    obtain ⟨D, r, f, rfl, hown, hS, hrf, hDr, hbel⟩ := hrel
    cases r with
    | nil =>
      have e0 : (ba ([] : List UInt8)).toList.isEmpty = true := by rw [ba_empty]; rfl
      have hSD : S = D := by
        rw [hS.out]
        cases f with
        | zero => simp [Wl.cut]
        | succ f => simp [Wl.cut]
      have hDl : S.length = (D.map ba).length := by rw [hSD, List.length_map]
      have hl : D.length = (D.map ba).length := by rw [List.length_map]
      rw [hl] at hown
      obtain ⟨g, c, rfl, htx, hg⟩ := tx_of_owns (by rw [← hSD]; simpa using HN.out) hown
      have TX : Hid (TxAt wr g 0 c (S.map ba)) := by rw [hSD]; exact htx
      have HL := hid hDl
      clear hown htx hl hDl hSD hS
      go_wp2_with fail
      go_ret
      exact ⟨g, c, by rw [HL.out]; rfl, TX.out, hg, hbel.out⟩
    | cons x r =>
      have e0 : (ba (x :: r)).toList.isEmpty = false := by rw [ba_empty]; rfl
      generalize hR : x :: r = R at *
      have hRp : 0 < R.length := by rw [← hR]; simp
      obtain ⟨va, vc, rfl⟩ := owns_form hown
      have main : ∀ (h : List UInt8), h = (if D.length = 0 then h1 else h2) → 3 ≤ h.length → h.length ≤ 21 → ∃ k, 0 < k ∧ k ≤ R.length ∧ k ≤ 64 - h.length ∧ (k = R.length ∨ k = 64 - h.length) ∧ S = (D ++ [h ++ R.take k]) ++ Wl.cut h2 (if (D ++ [h ++ R.take k]).length = 0 then h1 else h2) (f - 1) (R.drop k) := by
        intro h hh l3 l21
        refine ⟨min (64 - h.length) R.length, by omega, by omega, by omega, by omega, ?_⟩
        have hk : min (64 - h.length) R.length = min (64 - h.length) R.length := rfl
        generalize hkk : min (64 - h.length) R.length = k at *
        obtain ⟨f', rfl⟩ : ∃ f', f = f' + 1 := ⟨f - 1, by omega⟩
        have hne : R ≠ [] := by intro e; rw [e] at hRp; simp at hRp
        have nx : Wl.cut h2 h (f' + 1) R = (h ++ R.take k) :: Wl.cut h2 h2 f' (R.drop k) := by
          rw [Wl.cut, if_neg hne]
          by_cases hc : 64 - h.length ≤ R.length
          · rw [show 64 - h.length = k by omega]
          · have hkR : k = R.length := by omega
            rw [List.take_of_length_le (by omega : R.length ≤ 64 - h.length), List.drop_of_length_le (by omega : R.length ≤ 64 - h.length), hkR, List.take_length, List.drop_length]
        rw [hS.out, ← hh, nx, if_neg (by simp), Nat.add_sub_cancel, List.append_assoc]
        rfl
      have MN := hid main
      clear main hS hR
      by_cases hD0 : D.length = 0
      · skip
        have d0 : ((D.length : Int) == 0) = true := by rw [hD0]; rfl
        have d0' : (D.length == 0) = true := by rw [hD0]; rfl
        obtain ⟨k, hk0, hk1, hk2, hk3, hkS⟩ := MN.out h1 (by rw [if_pos hD0]) hd1.1 hd1.2
        have NS := hid hkS
        have s1 := ba_size h1
        have s2 := ba_size R
        have hrl : (R.drop k).length = R.length - k := by rw [List.length_drop]
        have s3 : (ba (R.take k)).size = k := by rw [ba_size, List.length_take]; omega
        have hcat := hid (ba_app h1 (R.take k))
        have z1 : ¬ (9223372036854775807 < h1.length + (ba (R.take k)).size) := by omega
        clear hkS MN hD0
        by_cases hgt : R.length < 64 - h1.length
        · have hkk : k = R.length := by omega
          have g1 : decide ((R.length : Int) < 64 - (h1.length : Int)) = true := by simp; omega
          have c1 := fun W => PFold.cut_to (ba R) (R.length : Int) (by omega) (by omega) W
          have c2 := fun W => PFold.cut_from (ba R) (R.length : Int) (by omega) (by omega) W
          rw [show ((R.length : Int)).toNat = k from by omega, ba_take] at c1
          rw [show ((R.length : Int)).toNat = k from by omega, ba_drop] at c2
          have hkk' := hid hkk
          clear hkk hk3
          generalize ba R = q at *
          generalize ba h1 = y at *
          generalize ba (R.take k) = p at *
          clear s3
          go_wp2_with fail
          refine (K2'.out _).mono ?_
          rintro rr w4 ⟨rfl, hb4⟩
          have B4 := hid hb4
          clear hb4
          go_wp2_with fail
          refine (K1'.out _).mono ?_
          rintro rr w5 ⟨rfl, hb5⟩
          have B5 := hid (below_tr B4.out hb5)
          clear hb5 B4
          have OW : Hid (w5.ownsRow w.heap.size 9 1 (.slice va D.length vc) D.length ((D.map ba).map Value.string)) := ownsRow_of_block hown (fun k hk => B5.out.block k (hown.lt k hk).2)
          have BW := hid (hbel.out.trans (B5.out.mono hbel.out.size))
          have OA : Hid ((w5.drew.alloc (.cells #[.string (y ++ p)] 9)).ownsRow w.heap.size 9 1 (.slice va D.length vc) D.length ((D.map ba).map Value.string)) := (OW.out.drew.alloc _)
          have hszs : Hid (w.heap.size ≤ w5.heap.size) := BW.out.size
          clear hown hbel OW
          go_wp2_with fail
          go_region_law ((refine step_append_far (by rfl) _ _ _ (by rfl) w.heap.size 9 i0 (.string ⟨#[]⟩) 1 16 Try.underlying54 hi hz0 hz1 hz2 rfl (by decide) _ D.length ((D.map ba).map Value.string) (by rfl) OA.out ⟨w5.heap.size, 0, none⟩ 1 1 [.string (y ++ p)] (by rfl) rfl (news_str w5.drew (y ++ p)) (cell_str _) (by decide) (by unfold maxLen; omega) (by omega) (by have := hszs.out; simp; omega) ?_; intro g cap w6 a1 a2 a3 a4; have A1 := hid a1; have A2 := hid a2; clear a1 a2 a3 a4))
          have OW6 : Hid (w6.ownsRow w.heap.size 9 1 (.slice (some ⟨g, 0, none⟩) (D.length + 1) cap) (D ++ [h1 ++ R.take k]).length (((D ++ [h1 ++ R.take k]).map ba).map Value.string)) := by
            have a1 := A1.out
            rw [hcat.out] at a1
            show World.ownsRow _ _ _ _ _ _ _
            simpa using a1
          have B6 : Hid (Below w.heap.size w w6) := (BW.out.drew.alloc BW.out.size _).grown A2.out (by have := hszs.out; simp; omega) (fun k hk => (OA.out.lt k hk).1)
          clear A1 A2 OA
          simp only [Act.put, List.getElem_toArray, List.getElem_cons_zero, List.getElem_cons_succ, List.setIfInBounds_toArray, List.set_cons_zero, List.set_cons_succ]
          go_wp2_with fail
          go_roundw
          case rel => exact ⟨D ++ [h1 ++ R.take k], R.drop k, f - 1, rfl, by simpa using OW6.out, NS, by omega, by simp; omega, B6⟩
          case measure => (simp only [strOf]; rw [ba_size]; omega)
        · have hkk : k = 64 - h1.length := by omega
          have g1 : decide ((R.length : Int) < 64 - (h1.length : Int)) = false := by simp; omega
          have c1 := fun W => PFold.cut_to (ba R) (64 - (h1.length : Int)) (by omega) (by omega) W
          have c2 := fun W => PFold.cut_from (ba R) (64 - (h1.length : Int)) (by omega) (by omega) W
          rw [show ((64 - (h1.length : Int))).toNat = k from by omega, ba_take] at c1
          rw [show ((64 - (h1.length : Int))).toNat = k from by omega, ba_drop] at c2
          have hkk' := hid hkk
          clear hkk hk3
          generalize ba R = q at *
          generalize ba h1 = y at *
          generalize ba (R.take k) = p at *
          clear s3
          go_wp2_with fail
          refine (K2'.out _).mono ?_
          rintro rr w4 ⟨rfl, hb4⟩
          have B4 := hid hb4
          clear hb4
          go_wp2_with fail
          refine (K1'.out _).mono ?_
          rintro rr w5 ⟨rfl, hb5⟩
          have B5 := hid (below_tr B4.out hb5)
          clear hb5 B4
          have OW : Hid (w5.ownsRow w.heap.size 9 1 (.slice va D.length vc) D.length ((D.map ba).map Value.string)) := ownsRow_of_block hown (fun k hk => B5.out.block k (hown.lt k hk).2)
          have BW := hid (hbel.out.trans (B5.out.mono hbel.out.size))
          have OA : Hid ((w5.drew.alloc (.cells #[.string (y ++ p)] 9)).ownsRow w.heap.size 9 1 (.slice va D.length vc) D.length ((D.map ba).map Value.string)) := (OW.out.drew.alloc _)
          have hszs : Hid (w.heap.size ≤ w5.heap.size) := BW.out.size
          clear hown hbel OW
          go_wp2_with fail
          go_region_law ((refine step_append_far (by rfl) _ _ _ (by rfl) w.heap.size 9 i0 (.string ⟨#[]⟩) 1 16 Try.underlying54 hi hz0 hz1 hz2 rfl (by decide) _ D.length ((D.map ba).map Value.string) (by rfl) OA.out ⟨w5.heap.size, 0, none⟩ 1 1 [.string (y ++ p)] (by rfl) rfl (news_str w5.drew (y ++ p)) (cell_str _) (by decide) (by unfold maxLen; omega) (by omega) (by have := hszs.out; simp; omega) ?_; intro g cap w6 a1 a2 a3 a4; have A1 := hid a1; have A2 := hid a2; clear a1 a2 a3 a4))
          have OW6 : Hid (w6.ownsRow w.heap.size 9 1 (.slice (some ⟨g, 0, none⟩) (D.length + 1) cap) (D ++ [h1 ++ R.take k]).length (((D ++ [h1 ++ R.take k]).map ba).map Value.string)) := by
            have a1 := A1.out
            rw [hcat.out] at a1
            show World.ownsRow _ _ _ _ _ _ _
            simpa using a1
          have B6 : Hid (Below w.heap.size w w6) := (BW.out.drew.alloc BW.out.size _).grown A2.out (by have := hszs.out; simp; omega) (fun k hk => (OA.out.lt k hk).1)
          clear A1 A2 OA
          simp only [Act.put, List.getElem_toArray, List.getElem_cons_zero, List.getElem_cons_succ, List.setIfInBounds_toArray, List.set_cons_zero, List.set_cons_succ]
          go_wp2_with fail
          go_roundw
          case rel => exact ⟨D ++ [h1 ++ R.take k], R.drop k, f - 1, rfl, by simpa using OW6.out, NS, by omega, by simp; omega, B6⟩
          case measure => (simp only [strOf]; rw [ba_size]; omega)
      · skip
        have d0 : ((D.length : Int) == 0) = false := by rw [beq_eq_false_iff_ne]; omega
        have d0' : (D.length == 0) = false := by rw [beq_eq_false_iff_ne]; omega
        obtain ⟨k, hk0, hk1, hk2, hk3, hkS⟩ := MN.out h2 (by rw [if_neg hD0]) hd2.1 hd2.2
        have NS := hid hkS
        have s1 := ba_size h2
        have s2 := ba_size R
        have hrl : (R.drop k).length = R.length - k := by rw [List.length_drop]
        have s3 : (ba (R.take k)).size = k := by rw [ba_size, List.length_take]; omega
        have hcat := hid (ba_app h2 (R.take k))
        have z1 : ¬ (9223372036854775807 < h2.length + (ba (R.take k)).size) := by omega
        clear hkS MN hD0
        by_cases hgt : R.length < 64 - h2.length
        · have hkk : k = R.length := by omega
          have g1 : decide ((R.length : Int) < 64 - (h2.length : Int)) = true := by simp; omega
          have c1 := fun W => PFold.cut_to (ba R) (R.length : Int) (by omega) (by omega) W
          have c2 := fun W => PFold.cut_from (ba R) (R.length : Int) (by omega) (by omega) W
          rw [show ((R.length : Int)).toNat = k from by omega, ba_take] at c1
          rw [show ((R.length : Int)).toNat = k from by omega, ba_drop] at c2
          have hkk' := hid hkk
          clear hkk hk3
          generalize ba R = q at *
          generalize ba h2 = y at *
          generalize ba (R.take k) = p at *
          clear s3
          go_wp2_with fail
          refine (K2'.out _).mono ?_
          rintro rr w4 ⟨rfl, hb4⟩
          have B4 := hid hb4
          clear hb4
          have OW : Hid (w4.ownsRow w.heap.size 9 1 (.slice va D.length vc) D.length ((D.map ba).map Value.string)) := ownsRow_of_block hown (fun k hk => B4.out.block k (hown.lt k hk).2)
          have BW := hid (hbel.out.trans (B4.out.mono hbel.out.size))
          have OA : Hid ((w4.drew.alloc (.cells #[.string (y ++ p)] 9)).ownsRow w.heap.size 9 1 (.slice va D.length vc) D.length ((D.map ba).map Value.string)) := (OW.out.drew.alloc _)
          have hszs : Hid (w.heap.size ≤ w4.heap.size) := BW.out.size
          clear hown hbel OW
          go_wp2_with fail
          go_region_law ((refine step_append_far (by rfl) _ _ _ (by rfl) w.heap.size 9 i0 (.string ⟨#[]⟩) 1 16 Try.underlying54 hi hz0 hz1 hz2 rfl (by decide) _ D.length ((D.map ba).map Value.string) (by rfl) OA.out ⟨w4.heap.size, 0, none⟩ 1 1 [.string (y ++ p)] (by rfl) rfl (news_str w4.drew (y ++ p)) (cell_str _) (by decide) (by unfold maxLen; omega) (by omega) (by have := hszs.out; simp; omega) ?_; intro g cap w6 a1 a2 a3 a4; have A1 := hid a1; have A2 := hid a2; clear a1 a2 a3 a4))
          have OW6 : Hid (w6.ownsRow w.heap.size 9 1 (.slice (some ⟨g, 0, none⟩) (D.length + 1) cap) (D ++ [h2 ++ R.take k]).length (((D ++ [h2 ++ R.take k]).map ba).map Value.string)) := by
            have a1 := A1.out
            rw [hcat.out] at a1
            show World.ownsRow _ _ _ _ _ _ _
            simpa using a1
          have B6 : Hid (Below w.heap.size w w6) := (BW.out.drew.alloc BW.out.size _).grown A2.out (by have := hszs.out; simp; omega) (fun k hk => (OA.out.lt k hk).1)
          clear A1 A2 OA
          simp only [Act.put, List.getElem_toArray, List.getElem_cons_zero, List.getElem_cons_succ, List.setIfInBounds_toArray, List.set_cons_zero, List.set_cons_succ]
          go_wp2_with fail
          go_roundw
          case rel => exact ⟨D ++ [h2 ++ R.take k], R.drop k, f - 1, rfl, by simpa using OW6.out, NS, by omega, by simp; omega, B6⟩
          case measure => (simp only [strOf]; rw [ba_size]; omega)
        · have hkk : k = 64 - h2.length := by omega
          have g1 : decide ((R.length : Int) < 64 - (h2.length : Int)) = false := by simp; omega
          have c1 := fun W => PFold.cut_to (ba R) (64 - (h2.length : Int)) (by omega) (by omega) W
          have c2 := fun W => PFold.cut_from (ba R) (64 - (h2.length : Int)) (by omega) (by omega) W
          rw [show ((64 - (h2.length : Int))).toNat = k from by omega, ba_take] at c1
          rw [show ((64 - (h2.length : Int))).toNat = k from by omega, ba_drop] at c2
          have hkk' := hid hkk
          clear hkk hk3
          generalize ba R = q at *
          generalize ba h2 = y at *
          generalize ba (R.take k) = p at *
          clear s3
          go_wp2_with fail
          refine (K2'.out _).mono ?_
          rintro rr w4 ⟨rfl, hb4⟩
          have B4 := hid hb4
          clear hb4
          have OW : Hid (w4.ownsRow w.heap.size 9 1 (.slice va D.length vc) D.length ((D.map ba).map Value.string)) := ownsRow_of_block hown (fun k hk => B4.out.block k (hown.lt k hk).2)
          have BW := hid (hbel.out.trans (B4.out.mono hbel.out.size))
          have OA : Hid ((w4.drew.alloc (.cells #[.string (y ++ p)] 9)).ownsRow w.heap.size 9 1 (.slice va D.length vc) D.length ((D.map ba).map Value.string)) := (OW.out.drew.alloc _)
          have hszs : Hid (w.heap.size ≤ w4.heap.size) := BW.out.size
          clear hown hbel OW
          go_wp2_with fail
          go_region_law ((refine step_append_far (by rfl) _ _ _ (by rfl) w.heap.size 9 i0 (.string ⟨#[]⟩) 1 16 Try.underlying54 hi hz0 hz1 hz2 rfl (by decide) _ D.length ((D.map ba).map Value.string) (by rfl) OA.out ⟨w4.heap.size, 0, none⟩ 1 1 [.string (y ++ p)] (by rfl) rfl (news_str w4.drew (y ++ p)) (cell_str _) (by decide) (by unfold maxLen; omega) (by omega) (by have := hszs.out; simp; omega) ?_; intro g cap w6 a1 a2 a3 a4; have A1 := hid a1; have A2 := hid a2; clear a1 a2 a3 a4))
          have OW6 : Hid (w6.ownsRow w.heap.size 9 1 (.slice (some ⟨g, 0, none⟩) (D.length + 1) cap) (D ++ [h2 ++ R.take k]).length (((D ++ [h2 ++ R.take k]).map ba).map Value.string)) := by
            have a1 := A1.out
            rw [hcat.out] at a1
            show World.ownsRow _ _ _ _ _ _ _
            simpa using a1
          have B6 : Hid (Below w.heap.size w w6) := (BW.out.drew.alloc BW.out.size _).grown A2.out (by have := hszs.out; simp; omega) (fun k hk => (OA.out.lt k hk).1)
          clear A1 A2 OA
          simp only [Act.put, List.getElem_toArray, List.getElem_cons_zero, List.getElem_cons_succ, List.setIfInBounds_toArray, List.set_cons_zero, List.set_cons_succ]
          go_wp2_with fail
          go_roundw
          case rel => exact ⟨D ++ [h2 ++ R.take k], R.drop k, f - 1, rfl, by simpa using OW6.out, NS, by omega, by simp; omega, B6⟩
          case measure => (simp only [strOf]; rw [ba_size]; omega)

end Go.Proofs.Ythfpinjegfgeiaa
