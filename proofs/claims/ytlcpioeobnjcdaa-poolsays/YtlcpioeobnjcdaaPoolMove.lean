/- pool.Check, slices.Index at numbers, pool.moveBehind, walked. Conditions: lengths that an int holds; the page that is moved is there. -/
import Derived.Test.YtlcpioeobnjcdaaPoolMem
import Derived.Test.YtlcpioeobnjcdaaChecked
import Derived.Deep.RegionHeld3
namespace Go.Proofs.Ytlcpioeobnjcdaa.PPool
open Go Go.RowKit
set_option maxRecDepth 100000

/-- What is wrong with it: 1 the size, 2 too many. -/
def chk (size : Int) (n : Nat) : Int := if size < 1 ∨ 50 < size then 1 else if 2000 < n then 2 else 0

set_option maxHeartbeats 1000000 in
theorem check_any (w : World) (size : Int) (a : Option Addr) (n c : Nat) :
    Calls Try.prog 62 #[.int .i64 size, .slice a n c] w fun e w' => e = .returned (.int .i64 (chk size n)) ∧ w' = w := by
  obtain ⟨Y, hY⟩ : ∃ Y, Y = chk size n := ⟨_, rfl⟩
  rw [← hY]
  unfold chk at hY
  by_cases h1 : size < 1
  · rw [if_pos (.inl h1)] at hY
    have j1 : decide (size < 1) = true := by simpa using h1
    have HY := hid hY
    clear hY
    go_enter Try.func62, Try.ntmps62
    go_wp2_with fail
    go_ret
    exact ⟨by rw [HY.out]; rfl, rfl⟩
  · by_cases h2 : 50 < size
    · rw [if_pos (.inr h2)] at hY
      have j1 : decide (size < 1) = false := by simpa using h1
      have j2 : decide (50 < size) = true := by simpa using h2
      have HY := hid hY
      clear hY
      go_enter Try.func62, Try.ntmps62
      go_wp2_with fail
      go_ret
      exact ⟨by rw [HY.out]; rfl, rfl⟩
    · rw [if_neg (by omega)] at hY
      have j1 : decide (size < 1) = false := by simpa using h1
      have j2 : decide (50 < size) = false := by simpa using h2
      by_cases h3 : 2000 < n
      · rw [if_pos h3] at hY
        have j3 : decide ((2000 : Int) < (n : Int)) = true := by simp; omega
        have j4 : (2000 : Int) < (n : Int) := by omega
        have HY := hid hY
        clear hY
        go_enter Try.func62, Try.ntmps62
        go_wp2_with fail
        go_ret
        exact ⟨by rw [HY.out]; rfl, rfl⟩
      · rw [if_neg h3] at hY
        have j3 : decide ((2000 : Int) < (n : Int)) = false := by simp; omega
        have j4 : ¬ (2000 : Int) < (n : Int) := by omega
        have HY := hid hY
        clear hY
        go_enter Try.func62, Try.ntmps62
        go_wp2_with fail
        go_ret
        exact ⟨by rw [HY.out]; rfl, rfl⟩

/-- A number's place, or -1. -/
def place (X : List Int) (x : Int) : Int := if x ∈ X then (X.idxOf x : Int) else -1
theorem idx_first {X : List Int} {x : Int} {k : Nat} (hk : X[k]? = some x) (hf : ∀ j, j < k → X[j]? ≠ some x) : X.idxOf x = k := by
  obtain ⟨h1, h2⟩ := List.getElem?_eq_some_iff.1 hk
  have hm : x ∈ X := h2 ▸ List.getElem_mem h1
  have hl := List.idxOf_lt_length_of_mem hm
  have hg : X[X.idxOf x]? = some x := by rw [List.getElem?_eq_getElem hl, List.getElem_idxOf hl]
  rcases Nat.lt_trichotomy (X.idxOf x) k with h | h | h
  · exact absurd hg (hf _ h)
  · exact h
  · have := List.not_of_lt_findIdx (p := (· == x)) (xs := X) (i := k) h
    simp [h2] at this
set_option maxHeartbeats 1000000 in
theorem index_any (w : World) (a : Option Addr) (c : Nat) (X : List Int) (x : Int) (h : IntsAt w a X) (hn : X.length ≤ 9223372036854775807) :
    Calls Try.prog 129 #[.slice a X.length c, .int .i64 x] w fun e w' => e = .returned (.int .i64 (place X x)) ∧ Below w.heap.size w w' := by
  have H := hid h
  obtain ⟨Y, hY⟩ : ∃ Y, Y = place X x := ⟨_, rfl⟩
  rw [← hY]
  have HY := hid hY
  clear h hY
  go_enter Try.func129, Try.ntmps129
  go_wp2_with fail
  go_loopw [8] (fun i wr => ∃ k : Nat, k ≤ X.length ∧ i = .int .i64 (k : Int) ∧ Hid (∀ j, j < k → X[j]? ≠ some x) ∧ Hid (Below w.heap.size w wr)) (fun i _ => X.length - (intOf i).toNat)
  case atStart => exact ⟨0, Nat.zero_le _, rfl, fun j hj => by omega, Below.refl _ _⟩
  case round =>
    obtain ⟨k, hk, rfl, hO, hb⟩ := hrel
    by_cases hlt : k < X.length
    · obtain ⟨y, hy⟩ : ∃ y, X[k]? = some y := ⟨_, List.getElem?_eq_getElem hlt⟩
      obtain ⟨b, o, rfl, d1⟩ := (H.out.below hb.out) k y hy
      have k0 : (0 : Int) ≤ (k : Int) := by omega
      have k1 : (k : Int) < (X.length : Int) := by omega
      by_cases e : y = x
      · subst e
        have HK : Hid (Y = (k : Int)) := by
          show _ = _
          rw [HY.out]
          unfold place
          rw [if_pos (List.mem_of_getElem? hy), idx_first hy hO.out]
        have j1 : (y == y) = true := by simp
        clear hy hO HY
        go_wp2_with fail
        go_ret
        exact ⟨by rw [HK.out]; rfl, hb.out⟩
      · have j1 : (x == y) = false := by simpa using Ne.symm e
        have j2 : (y == x) = false := by simpa using e
        have NO : Hid (∀ j, j < k + 1 → X[j]? ≠ some x) := fun j hj hx => by
          by_cases e2 : j = k
          · subst e2; rw [hy] at hx; exact e (Option.some.inj hx)
          · exact hO.out j (by omega) hx
        clear hy hO
        go_wp2_with fail
        go_roundw
        case rel => exact ⟨k + 1, by omega, by go_num, NO, hb⟩
        case measure => simp [intOf]; omega
    · obtain rfl : k = X.length := by omega
      have j3 : decide ((X.length : Int) < (X.length : Int)) = false := by simp
      have HK : Hid (Y = -1) := by
        show _ = _
        rw [HY.out]
        unfold place
        rw [if_neg]
        intro hm
        obtain ⟨j, hj, e⟩ := List.mem_iff_getElem.1 hm
        exact hO.out j hj (by rw [List.getElem?_eq_getElem hj, e])
      clear hO HY
      go_wp2_with fail
      go_ret
      exact ⟨by rw [HK.out]; rfl, hb.out⟩

theorem slice_from (W : World) (g n c k : Nat) (hk : k ≤ n) : (Instr.slice 55 (.slice (some ⟨g, 0, none⟩) n c) (some (.int .i64 (k : Int))) none none).run Try.prog W = .ok (.slice (if c = k then some ⟨g, 0, none⟩ else some ⟨g, k, none⟩) (n - k) (c - k)) W := by
  have u := Try.underlying55
  have z := Try.sizeOf3
  go_simp

/-- The two slices of a shift, and the shift. -/
theorem shift_run (w : World) (base g c : Nat) (P : List Int) (k : Nat) (h : OwnInts w base (.slice (some ⟨g, 0, none⟩) P.length c) P) (hk : k < P.length) :
    ∃ V1 V2, (∀ W, (Instr.slice 55 (.slice (some ⟨g, 0, none⟩) P.length c) (some (.int .i64 (k : Int))) none none).run Try.prog W = .ok V1 W) ∧
      (∀ W, (Instr.slice 55 (.slice (some ⟨g, 0, none⟩) P.length c) (some (.int .i64 ((k : Int) + 1))) none none).run Try.prog W = .ok V2 W) ∧
      (∃ r, (Builtin.copy_ #[55, 55] 3 #[V1, V2]).run Try.prog w = .ok r (w.setCells g k ((P.drop (k + 1)).map (Value.int .i64)))) := by
  have hc : P.length ≤ c := by
    rcases h.2 with ⟨e, _⟩ | ⟨g', cap, cur, hv, hg, hh, h1, _⟩
    · cases e
    · injection hv with _ _ e3
      omega
  have hu := Try.underlying55
  have hsz : (Try.prog.info? 3).map (·.size) = some 1 := by kernel_rfl
  refine ⟨_, _, fun W => slice_from W g P.length c k (by omega), fun W => by have := slice_from W g P.length c (k + 1) (by omega); simpa using this, ?_⟩
  rw [if_neg (by omega)]
  by_cases hlast : k + 1 = P.length
  · rw [run_copy_none w 55 55 3 3 _ _ _ _ _ _ hu hsz (by show min (P.length - (k + 1)) (P.length - k) = 0; omega)]
    rw [List.drop_of_length_le (by omega)]
    exact ⟨_, rfl⟩
  · rw [if_neg (by omega)]
    have hl : ((P.drop (k + 1)).map (Value.int .i64)).length = P.length - (k + 1) := by simp
    refine ⟨_, run_copy_cells w 55 55 3 3 g k _ _ ⟨g, k + 1, none⟩ _ _ ((P.drop (k + 1)).map (Value.int .i64)) hu hsz (by rw [hl]; show _ = min (P.length - (k + 1)) (P.length - k); omega) ?_ ?_ ?_ ?_⟩
    · intro j v hj
      rw [List.getElem?_map] at hj
      cases hx : (P.drop (k + 1))[j]? with
      | none => rw [hx] at hj; cases hj
      | some x =>
        rw [hx] at hj
        cases hj
        rw [List.getElem?_drop] at hx
        rw [Addr.add_mid]
        exact h.cell hx
    · intro j hj
      rw [hl] at hj
      have := h.cell (List.getElem?_eq_getElem (by omega : k + j < P.length))
      rw [this]; rfl
    · intro j _
      exact h.fz _
    · intro v hv
      obtain ⟨x, _, rfl⟩ := List.mem_map.1 hv
      rfl

set_option maxHeartbeats 1000000 in
theorem move_any (w : World) (base g c : Nat) (P : List Int) (k : Nat) (h : OwnInts w base (.slice (some ⟨g, 0, none⟩) P.length c) P) (hk : k < P.length) (hn : P.length ≤ 2000) :
    Calls Try.prog 108 #[.slice (some ⟨g, 0, none⟩) P.length c, .int .i64 (k : Int)] w fun e w' => e = .returned (.int .i64 ((P.length - 1 : Nat) : Int)) ∧ OwnInts w' base (.slice (some ⟨g, 0, none⟩) P.length c) (Pl.behind P k) ∧ Goes (fun b => b = g) w w' (fun b => b = g) := by
  have c1 := h.cell (List.getElem?_eq_getElem hk)
  have h : OwnInts w.drew base (.slice (some ⟨g, 0, none⟩) P.length c) P := h.keep fun _ _ => rfl
  obtain ⟨V1, V2, hv1, hv2, r, hcp⟩ := shift_run w.drew base g c P k h hk
  have O1 := h.sets k (P.drop (k + 1)) (by simp; omega)
  have O2 := O1.set (P.length - 1) P[k]
  rw [shift_behind hk] at O2
  have G1 : Goes (fun b => b = g) w (w.drew.setCells g k ((P.drop (k + 1)).map (Value.int .i64))) (fun b => b = g) := goes_set (own := fun b => b = g) (Goes.refl _ w).drew (.inl rfl) k _
  have G2 := hid (G1.setCell (q := ⟨g, P.length - 1, none⟩) (.inl rfl) (.int .i64 P[k]))
  have HO := hid O2
  obtain ⟨y, hy⟩ : ∃ y, (P.take k ++ P.drop (k + 1) ++ P.drop (k + (P.drop (k + 1)).length))[P.length - 1]? = some y := by
    refine ⟨_, List.getElem?_eq_getElem ?_⟩
    simp
    omega
  have d1 := O1.cell hy
  have d2 := O1.fz (P.length - 1)
  generalize P[k] = p at *
  generalize (P.drop (k + 1)).map (Value.int .i64) = cs at *
  generalize Pl.behind P k = Q at *
  clear O1 O2 G1 h hy
  generalize P.length = N at *
  obtain ⟨m, rfl⟩ : ∃ m, N = m + 1 := ⟨N - 1, by omega⟩
  rw [Nat.add_sub_cancel] at *
  have k0 : (0 : Int) ≤ (k : Int) := by omega
  have k1 : (k : Int) < (m : Int) + 1 := by omega
  have km : (m : Int) ≤ 2000 := by omega
  go_enter Try.func108, Try.ntmps108
  go_wp2_with fail
  go_region
  go_wp2_with fail
  go_ret
  exact ⟨rfl, HO.out, G2.out⟩

end Go.Proofs.Ytlcpioeobnjcdaa.PPool
