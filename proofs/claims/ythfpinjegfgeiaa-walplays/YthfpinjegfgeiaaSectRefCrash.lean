/- The document's own disk: Crash. -/
import Derived.Test.YthfpinjegfgeiaaSectRefFlush
namespace Go.Proofs.Ythfpinjegfgeiaa
open Go Go.RowKit
set_option maxRecDepth 100000

theorem RefAt.crashed {W W' : World} {b : Nat} {F : Nat → FR} {d : SD} (h : RefAt W b F d) (g' c' : Nat) (ho : W'.ownsRow 0 9 1 (.slice (some ⟨g', 0, none⟩) (d.safe.map Value.string).length c') (d.safe.map Value.string).length (d.safe.map Value.string)) (hg : W.heap.size ≤ g') (hb : Below W.heap.size W W') :
    ∃ F', RefAt ((((W'.setCell ⟨b, 0, none⟩ (.slice (some ⟨g', 0, none⟩) d.safe.length c')).setCell ⟨b, 2, none⟩ (.slice none 0 0)).setCell ⟨b, 3, none⟩ (.slice none 0 0)).setCell ⟨b, 4, none⟩ (.int .i64 (-1))) b F' ⟨d.safe, d.safe, [], false, 0⟩ ∧
      Goes (rown b F) W ((((W'.setCell ⟨b, 0, none⟩ (.slice (some ⟨g', 0, none⟩) d.safe.length c')).setCell ⟨b, 2, none⟩ (.slice none 0 0)).setCell ⟨b, 3, none⟩ (.slice none 0 0)).setCell ⟨b, 4, none⟩ (.int .i64 (-1))) (rown b F') := by
  have r1 := h.copied 0 (by omega) g' c' (d.safe.map Value.string) ho hg hb
  have r2 := (((r1.set (.inl (.inl rfl)) 0 (.slice (some ⟨g', 0, none⟩) d.safe.length c')).set (.inl (.inl rfl)) 2 (.slice none 0 0)).set (.inl (.inl rfl)) 3 (.slice none 0 0)).set (.inl (.inl rfl)) 4 (.int .i64 (-1))
  have r3 := (r2.void 2 (by omega)).void 3 (by omega)
  exact ⟨_, RefAt.of r3 ⟨d.safe, d.safe, [], false, 0⟩ rfl rfl rfl rfl rfl ⟨rfl, by show d.safe.length ≤ 256; rw [h.ok.len]; exact h.ok.small, h.ok.safe64, h.ok.safe64, by simp, by simp, by simp⟩, r3.goes⟩

/-- A safe sector is written. -/
theorem RefAt.putSafe {W : World} {b : Nat} {F : Nat → FR} {d : SD} (h : RefAt W b F d) (g : Nat) (hg : (F 1).a = some ⟨g, 0, none⟩) (k : Nat) (hk : k < d.n) (x : ByteArray) (hx : x.size = 64) :
    RefAt (W.setCell ⟨g, k, none⟩ (.string x)) b F { d with safe := d.safe.set k x } ∧ Goes (rown b F) W (W.setCell ⟨g, k, none⟩ (.string x)) (rown b F) := by
  have r := h.rs.put 1 (by omega) (fun k hk => .inl (.inr ⟨1, by omega, hk⟩)) k (by show k < (d.safe.map Value.string).length; rw [List.length_map, h.ok.len]; exact hk) (.string x) g hg
  refine ⟨RefAt.of r { d with safe := d.safe.set k x } ?_ rfl ?_ rfl rfl ⟨by rw [List.length_set]; exact h.ok.len, h.ok.small, ?_, h.ok.seen64, h.ok.loose64, h.ok.left0, h.ok.leftM⟩, r.goes⟩
  · unfold rhead
    simp only [List.length_set]
    rfl
  · show (d.safe.map Value.string).set k (.string x) = (d.safe.set k x).map Value.string
    rw [List.map_set]
  · intro y hy
    rcases List.mem_or_eq_of_mem_set hy with hy | rfl
    · exact h.ok.safe64 y hy
    · exact hx

set_option maxHeartbeats 4000000 in
theorem ref_crash (w : World) (b : Nat) (F : Nat → FR) (d : SD) (h : RefAt w b F d) (hpos : 0 < d.n) (ka : Option Addr) (kc : Nat) (K : List Bool) (hK : KeepAt w ka K) (hKn : K ≠ [] → ∀ kb ko, ka = some ⟨kb, ko, none⟩ → ¬ rown b F kb)
    (hroom : d.loose.length ≤ 9223372036854775806) : Calls Try.prog 43 #[.pointer (some ⟨b, 0, none⟩), .slice ka K.length kc] w fun e w' =>
    ∃ F', e = .returned (.tuple #[]) ∧ RefAt w' b F' (d.crash K) ∧ Goes (rown b F) w w' (rown b F') := by
  have c2 := h.c2
  have hsm := h.ok.small
  obtain ⟨a2, ha2⟩ : ∃ a2, a2 = (F 2).a := ⟨_, rfl⟩
  rw [← ha2] at c2
  have HA2 := hid ha2
  have H := hid h
  have HK := hid hK
  have HKn := hid hKn
  clear h hK hKn ha2
  go_enter Try.func43, Try.ntmps43
  go_wp2_with fail
  go_loopw [11] (fun i wr => ∃ k : Nat, k ≤ d.loose.length ∧ i = .int .i64 k ∧ Hid (RefAt wr b F { d with safe := after d.loose K d.safe k }) ∧ Hid (Goes (rown b F) w wr (rown b F))) (fun i _ => d.loose.length - (intOf i).toNat)
  case atStart => exact ⟨0, Nat.zero_le _, rfl, H.out, hid (Goes.refl _ _)⟩
  case round =>
    obtain ⟨k, hk, rfl, hr, gr⟩ := hrel
    by_cases hlt : k < d.loose.length
    · obtain ⟨⟨xa, xt⟩, hx⟩ : ∃ x, d.loose[k]? = some x := ⟨_, List.getElem?_eq_getElem hlt⟩
      obtain ⟨g2, hg2, hc2, _, _, _⟩ := hr.out.rs.at_ 2 (by omega) (by show 0 < (d.loose.map _).length; rw [List.length_map]; omega)
      obtain ⟨g3, hg3, hc3, _, _, _⟩ := hr.out.rs.at_ 3 (by omega) (by show 0 < (d.loose.map _).length; rw [List.length_map]; omega)
      obtain ⟨g1, hg1, hc1, hf1, hb1, _⟩ := hr.out.rs.at_ 1 (by omega) (by show 0 < ((after d.loose K d.safe k).map _).length; rw [List.length_map, after_len, H.out.ok.len]; exact hpos)
      have hx2 : xa < d.n ∧ xt.size = 64 := hr.out.ok.loose64 (xa, xt) (List.mem_of_getElem? hx)
      have l2 := hc2 k (.int .i64 (xa : Int)) (by show (d.loose.map _)[k]? = _; rw [List.getElem?_map, hx]; rfl)
      have l3 := hc3 k (.string xt) (by show (d.loose.map _)[k]? = _; rw [List.getElem?_map, hx]; rfl)
      have hlen : (after d.loose K d.safe k).length = d.n := by rw [after_len, H.out.ok.len]
      have l1 := hc1 xa (.string ((after d.loose K d.safe k).getD xa ⟨#[]⟩)) (by show ((after d.loose K d.safe k).map _)[xa]? = _; rw [List.getElem?_map, List.getElem?_eq_getElem (by omega)]; simp [List.getD, List.getElem?_eq_getElem (show xa < (after d.loose K d.safe k).length by omega)])
      have m1 := hr.out.c1
      have m3 := hr.out.c3
      simp only [hlen] at m1
      rw [hg1] at m1
      rw [hg3] at m3
      have f1 := hf1 xa
      have PS := hid (hr.out.putSafe g1 hg1 xa hx2.1 xt hx2.2)
      have nxt := hid (after_next d.loose K d.safe k (xa, xt) hx)
      have HX2 := hid hx2
      have ea : a2 = some ⟨g2, 0, none⟩ := HA2.out.trans hg2
      subst ea
      have k0 : (0 : Int) ≤ (k : Int) := by omega
      have k1 : (k : Int) < d.loose.length := by omega
      have x0 : (0 : Int) ≤ (xa : Int) := by omega
      have x1 : (xa : Int) < d.n := by have := hx2.1; omega
      generalize (after d.loose K d.safe k).getD xa ⟨#[]⟩ = old at l1
      clear hx hx2 hc1 hc2 hc3 hf1 hlen
      by_cases hi : k < K.length
      · obtain ⟨b0, hb0⟩ : ∃ b0, K[k]? = some b0 := ⟨_, List.getElem?_eq_getElem hi⟩
        obtain ⟨kb, ko, hka, hkc⟩ := HK.out (by intro e; rw [e] at hi; simp at hi)
        subst hka
        have hkw := hkc k b0 hb0
        have hkl := World.block_lt_of_cell? w _ hkw
        have hko := HKn.out (by intro e; rw [e] at hi; simp at hi) kb ko rfl
        have hkr : wr.cell? ⟨kb, ko + k, none⟩ = some (.bool b0) := (World.cell?_of_block (w := w) (a := ⟨kb, ko + k, none⟩) (gr.out.block kb hkl hko)).trans hkw
        have kp : kept K k = b0 := by simp [kept, List.getD, hb0]
        have KP := hid kp
        have i1 : decide ((k : Int) < (K.length : Int)) = true := by simp; omega
        have i2 : decide (k < K.length) = true := by simp; omega
        clear hb0 hkc hkw hko kp
        cases b0
        · have e1 : Hid (after d.loose K d.safe (k + 1) = after d.loose K d.safe k) := by rw [nxt.out, KP.out]; rfl
          go_wp2_with fail
          go_roundw
          case rel => exact ⟨k + 1, by omega, by go_num, by rw [e1.out]; exact hr.out, gr.out⟩
          case measure => simp [intOf]; omega
        · have e1 : Hid (after d.loose K d.safe (k + 1) = (after d.loose K d.safe k).set xa xt) := by rw [nxt.out, KP.out]; rfl
          go_wp2_with fail
          go_region
          go_wp2_with fail
          go_roundw
          case rel => exact ⟨k + 1, by omega, by go_num, by rw [e1.out]; exact PS.out.1.drew, (gr.out.trans PS.out.2).drew⟩
          case measure => simp [intOf]; omega
      · have i1 : decide ((k : Int) < (K.length : Int)) = false := by simp; omega
        have i2 : decide (k < K.length) = false := by simp; omega
        have kp : kept K k = false := by unfold kept; rw [List.getD_eq_getElem?_getD, List.getElem?_eq_none (by omega)]; rfl
        have e1 : Hid (after d.loose K d.safe (k + 1) = after d.loose K d.safe k) := by rw [nxt.out, kp]; rfl
        go_wp2_with fail
        go_roundw
        case rel => exact ⟨k + 1, by omega, by go_num, by rw [e1.out]; exact hr.out, gr.out⟩
        case measure => simp [intOf]; omega
    · have hkm : k = d.loose.length := by omega
      have j1 : decide ((k : Int) < (d.loose.length : Int)) = false := by simp; omega
      have j2 : decide (k < d.loose.length) = false := by simp; omega
      have hf : Hid (RefAt wr b F { d with safe := after d.loose K d.safe d.loose.length }) := by rw [← hkm]; exact hr
      have hSl : (after d.loose K d.safe d.loose.length).length = d.n := by rw [after_len, H.out.ok.len]
      generalize hS : after d.loose K d.safe d.loose.length = S at hf hSl
      have HS := hid hS
      obtain ⟨g, hg, hc, _, _, hgl⟩ := hf.out.rs.at_ 1 (by omega) (by show 0 < (S.map Value.string).length; rw [List.length_map, hSl]; exact hpos)
      have c1 := hf.out.c1
      rw [hg] at c1
      have HC := clone_texts wr g (F 1).c (S.map Value.string) (by rw [List.length_map, hSl]; exact hpos) (by rw [List.length_map, hSl]; exact hsm) hc hgl (strs_one _)
      rw [List.length_map] at HC
      have HC' := hid HC
      clear HC hr hS hc hSl
      go_wp2_with fail
      refine HC'.out.mono ?_
      rintro r w2 ⟨g', c', rfl, a1, a2, a3⟩
      obtain ⟨F', R1, R2⟩ := hf.out.crashed g' c' (by rw [List.length_map]; exact a1) a2 a3
      have rs := (hf.out.rs.on a3)
      have c0 := rs.cell 0 _ rfl
      have c2 := rs.cell 2 _ rfl
      have c3 := rs.cell 3 _ rfl
      have c4 := rs.cell 4 _ rfl
      have f0 := rs.fz 0
      have f2 := rs.fz 2
      have f3 := rs.fz 3
      have f4 := rs.fz 4
      have ec : (⟨S, S, [], false, 0⟩ : SD) = d.crash K := by unfold SD.crash; rw [HS.out]
      rw [ec] at R1
      have R1' := hid R1
      clear ec
      have R2' := hid (gr.out.trans R2)
      clear a1 a2 a3 rs R1 R2 hf gr
      go_wp2
      all_goals (go_end0; exact ⟨F', rfl, R1'.out, R2'.out⟩)

end Go.Proofs.Ythfpinjegfgeiaa
