/- The document's own disk: Flush. -/
import Derived.Test.YthfpinjegfgeiaaSectRefRun
namespace Go.Proofs.Ythfpinjegfgeiaa
open Go Go.RowKit
set_option maxRecDepth 100000

theorem burn_rl (d : SD) (hd : d.down = false) (ok : d.ok) : max (rl d - 1) (min (rl d) (-1)) = rl d.burn := by
  have h0 := ok.left0
  unfold SD.down at hd
  unfold rl SD.burn
  cases hf : d.fused
  · simp [hf]; omega
  · have : d.left ≠ 0 := by intro e; simp [hf, e] at hd
    simp
    omega
theorem rl_ge (d : SD) (ok : d.ok) : -1 ≤ rl d ∧ rl d ≤ 9223372036854775807 := by
  have h0 := ok.left0
  have h1 := ok.leftM
  unfold rl
  split <;> omega

/-- The rows of a disk whose counter alone has gone on. -/
theorem RefAt.burn {W : World} {b : Nat} {F : Nat → FR} {d : SD} (h : RefAt W b F d) (hd : d.down = false) (v : Int) (hv : v = rl d.burn) :
    RefAt (W.setCell ⟨b, 4, none⟩ (.int .i64 v)) b F d.burn ∧ Goes (rown b F) W (W.setCell ⟨b, 4, none⟩ (.int .i64 v)) (rown b F) := by
  obtain ⟨b1, b2, b3⟩ : d.burn.seen = d.seen ∧ d.burn.safe = d.safe ∧ d.burn.loose = d.loose := by unfold SD.burn; split <;> exact ⟨rfl, rfl, rfl⟩
  exact h.left d.burn b1 b2 b3 (burn_ok h.ok hd) v hv

theorem RefAt.drew {W : World} {b : Nat} {F : Nat → FR} {d : SD} (h : RefAt W b F d) : RefAt W.drew b F d := h.keep (fun _ _ => rfl)

theorem strs_one (l : List ByteArray) : ∀ u ∈ l.map Value.string, u.oneCell' = true := by
  intro u hu
  obtain ⟨t, _, rfl⟩ := List.mem_map.1 hu
  rfl

/-- Row i is a new copy of texts. -/
theorem RefAt.copied {W W' : World} {b : Nat} {F : Nat → FR} {d : SD} (h : RefAt W b F d) (i : Nat) (hi : i < 4) (g' c' : Nat) (xs : List Value)
    (ho : W'.ownsRow 0 (ety i) 1 (.slice (some ⟨g', 0, none⟩) xs.length c') xs.length xs) (hg : W.heap.size ≤ g') (hb : Below W.heap.size W W') :
    RS (rown b F) W W' b (rhead d F) (updF F i ⟨some ⟨g', 0, none⟩, c'⟩) (updX (XS d) i xs) :=
  h.rs.swap i hi _ _ (fun k hk _ => hb.block k hk) ho (fun k hk => by
    obtain rfl : g' = k := by simpa [FR.blk] using hk
    exact .inr hg) (h.rs.on hb).goes

theorem RefAt.flushed {W W' : World} {b : Nat} {F : Nat → FR} {d : SD} (h : RefAt W b F d) (g' c' : Nat) (ho : W'.ownsRow 0 9 1 (.slice (some ⟨g', 0, none⟩) (d.seen.map Value.string).length c') (d.seen.map Value.string).length (d.seen.map Value.string)) (hg : W.heap.size ≤ g') (hb : Below W.heap.size W W') :
    ∃ F', RefAt (((W'.setCell ⟨b, 1, none⟩ (.slice (some ⟨g', 0, none⟩) d.seen.length c')).setCell ⟨b, 2, none⟩ (.slice none 0 0)).setCell ⟨b, 3, none⟩ (.slice none 0 0)) b F' { d with safe := d.seen, loose := [] } ∧
      Goes (rown b F) W (((W'.setCell ⟨b, 1, none⟩ (.slice (some ⟨g', 0, none⟩) d.seen.length c')).setCell ⟨b, 2, none⟩ (.slice none 0 0)).setCell ⟨b, 3, none⟩ (.slice none 0 0)) (rown b F') := by
  have r1 := h.copied 1 (by omega) g' c' (d.seen.map Value.string) ho hg hb
  have r2 := ((r1.set (.inl (.inl rfl)) 1 (.slice (some ⟨g', 0, none⟩) d.seen.length c')).set (.inl (.inl rfl)) 2 (.slice none 0 0)).set (.inl (.inl rfl)) 3 (.slice none 0 0)
  have r3 := (r2.void 2 (by omega)).void 3 (by omega)
  refine ⟨_, RefAt.of r3 { d with safe := d.seen, loose := [] } rfl rfl rfl rfl rfl ⟨rfl, h.ok.small, h.ok.seen64, h.ok.seen64, by simp, h.ok.left0, h.ok.leftM⟩, r3.goes⟩

set_option maxHeartbeats 2000000 in
theorem ref_flush (w : World) (b : Nat) (F : Nat → FR) (d : SD) (h : RefAt w b F d) (hpos : 0 < d.n) : Calls Try.prog 55 #[.pointer (some ⟨b, 0, none⟩)] w fun e w' =>
    ∃ F', e = .returned (.int .i64 d.flush.1) ∧ RefAt w' b F' d.flush.2 ∧ Goes (rown b F) w w' (rown b F') := by
  have c4 := h.c4
  have f4 := h.rs.fz 4
  cases hd : d.down
  · have e2 : d.flush = (0, { d.burn with safe := d.burn.seen, loose := [] }) := by unfold SD.flush; rw [hd]; rfl
    rw [e2]
    have hn : d.burn.seen.length = d.n := by unfold SD.burn; split <;> rfl
    have B1 := h.burn hd _ (burn_rl d hd h.ok)
    have RG : Hid (RefAt (w.setCell ⟨b, 4, none⟩ (.int .i64 (max (rl d - 1) (min (rl d) (-1))))).drew b F d.burn ∧ Goes (rown b F) w (w.setCell ⟨b, 4, none⟩ (.int .i64 (max (rl d - 1) (min (rl d) (-1))))).drew (rown b F)) := ⟨B1.1.drew, B1.2.drew⟩
    have hsm := h.ok.small
    obtain ⟨r0, r1⟩ := rl_ge d h.ok
    have hr := rl_down d
    rw [hd] at hr
    generalize d.burn = d1 at *
    rw [← hn] at hpos hsm
    generalize rl d = L at *
    clear hn h hd B1 e2
    go_enter Try.func55, Try.ntmps55
    go_wp2_with fail
    go_region
    obtain ⟨h1, g1⟩ := RG.out
    generalize (w.setCell ⟨b, 4, none⟩ (.int .i64 (max (L - 1) (min L (-1))))).drew = w1 at *
    obtain ⟨g, hg, hc, _, _, hgl⟩ := h1.rs.at_ 0 (by omega) (by show 0 < (d1.seen.map Value.string).length; rw [List.length_map]; exact hpos)
    have c0 := h1.c0
    rw [hg] at c0
    have HC := clone_texts w1 g (F 0).c (d1.seen.map Value.string) (by rw [List.length_map]; exact hpos) (by rw [List.length_map]; exact hsm) hc hgl (strs_one _)
    rw [List.length_map] at HC
    have HC' := hid HC
    have H1 := hid h1
    have G1 := hid g1
    clear HC h1 g1 hc c4 f4 RG
    go_wp2_with fail
    refine HC'.out.mono ?_
    rintro r w2 ⟨g', c', rfl, a1, a2, a3⟩
    obtain ⟨F', R1, R2⟩ := H1.out.flushed g' c' (by rw [List.length_map]; exact a1) a2 a3
    have rs := (H1.out.rs.on a3)
    have c1 := rs.cell 1 _ rfl
    have c2 := rs.cell 2 _ rfl
    have c3 := rs.cell 3 _ rfl
    have f1 := rs.fz 1
    have f2 := rs.fz 2
    have f3 := rs.fz 3
    have R1' := hid R1
    have R2' := hid (G1.out.trans R2)
    clear a1 a2 a3 rs R1 R2 H1 G1
    go_wp2
    all_goals (go_ret; exact ⟨F', rfl, R1'.out, R2'.out⟩)
  · have e2 : d.flush = (13, d) := by unfold SD.flush; rw [hd]; rfl
    rw [e2]
    have hr := rl_down d
    rw [hd] at hr
    generalize rl d = L at *
    have HH := hid h
    clear h e2 hd
    go_enter Try.func55, Try.ntmps55
    go_wp2
    all_goals (go_ret; exact ⟨F, rfl, HH.out, Goes.refl _ _⟩)

end Go.Proofs.Ythfpinjegfgeiaa
