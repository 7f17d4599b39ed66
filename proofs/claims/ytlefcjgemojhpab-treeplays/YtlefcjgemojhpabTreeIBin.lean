/- slices.BinarySearch over rising keys, walked: the key's place, and whether it stands there. It writes nothing that was there. Conditions: how many there are. -/
import Derived.Test.YtlefcjgemojhpabTreePlNum
import Derived.Test.YtlefcjgemojhpabTreeIMem
namespace Go.Proofs.Ytlefcjgemojhpab.PTree
open Go Go.RowKit PPool
set_option maxRecDepth 100000
set_option maxHeartbeats 1000000 in
theorem isnan_any (x : Int) (w : World) : Calls Try.prog 40 #[.int .i64 x] w fun e w' => e = .returned (.bool false) ∧ w' = w := by
  go_enter Try.func40, Try.ntmps40
  go_wp2_with fail
  go_ret
  simp
set_option maxHeartbeats 1000000 in
theorem less_any (x y : Int) (w : World) : Calls Try.prog 39 #[.int .i64 x, .int .i64 y] w fun e w' => e = .returned (.bool (decide (x < y))) ∧ w' = w := by
  obtain ⟨s, hs⟩ : ∃ s, s = decide (x < y) := ⟨_, rfl⟩
  rw [← hs]
  have HS := hid hs
  clear hs
  go_enter Try.func39, Try.ntmps39
  go_wp2_with (go_at_call 54; refine (nan_any _ _).mono ?_; rintro e w' ⟨rfl, rfl⟩)
  go_ret
  exact ⟨by rw [HS.out]; rfl, rfl⟩
theorem key_at {L : List En} {j : Nat} {x : En} (h : L[j]? = some x) : (keysOf L)[j]? = some x.k := by unfold keysOf; rw [List.getElem?_map, h]; rfl
theorem here_key (x : En) (k : Int) : decide (∃ y, some x = some y ∧ y.k = k) = (x.k == k) := by
  have e : (∃ y, some x = some y ∧ y.k = k) ↔ x.k = k := ⟨fun ⟨y, h1, h2⟩ => by cases h1; exact h2, fun h => ⟨x, rfl, h⟩⟩
  by_cases h : x.k = k
  · rw [decide_eq_true (e.2 h)]; simp [h]
  · rw [decide_eq_false (fun q => h (e.1 q))]; simp [h]
theorem sgn_lt (a b : Int) : (sgn a b < 0) ↔ a < b := by
  unfold sgn
  by_cases h1 : a < b
  · simp [h1]
  · by_cases h2 : b < a
    · simp [h1, h2]
    · simp [h1, h2]
set_option maxHeartbeats 2000000 in
theorem search_int (w : World) (a : Option Addr) (c : Nat) (L : List En) (k : Int) (h : TI.PgAt w a (keysOf L)) (hu : Up L) (hl : L.length ≤ 2000) :
    Calls Try.prog 19 #[.slice a L.length c, .int .i64 k] w fun e w' => e = .returned (.tuple #[.int .i64 (pos L k : Int), .bool (hit L k)]) ∧ w' = w := by
  have H := hid h
  have HU := hid hu
  obtain ⟨P, hp⟩ : ∃ P, P = pos L k := ⟨_, rfl⟩
  rw [← hp]
  obtain ⟨Q, hq⟩ : ∃ Q, Q = hit L k := ⟨_, rfl⟩
  have hq2 : Q = decide (∃ x, L[P]? = some x ∧ x.k = k) := by rw [hq, hp]; rfl
  rw [← hq]
  have HP := hid hp
  have HQ := hid hq2
  clear hp hq hq2
  obtain ⟨n, hn⟩ : ∃ n, n = L.length := ⟨_, rfl⟩
  rw [← hn] at hl ⊢
  have HN := hid hn
  clear h hu hn
  go_enter Try.func19, Try.ntmps19
  go_wp2_with fail
  go_loop [7, 8] (fun i j => ∃ a b : Nat, a ≤ b ∧ b ≤ n ∧ i = .int .i64 (a : Int) ∧ j = .int .i64 (b : Int) ∧ Hid (∀ q x, q < a → L[q]? = some x → x.k < k) ∧ Hid (∀ q x, b ≤ q → L[q]? = some x → k ≤ x.k)) (fun i j => (intOf j).toNat - (intOf i).toNat)
  case atStart => exact ⟨0, n, Nat.zero_le _, Nat.le_refl _, rfl, rfl, fun j x hj => by omega, fun q x hq hx => by have := (List.getElem?_eq_some_iff.1 hx).1; have := HN.out; omega⟩
  case round =>
    obtain ⟨i, j, hij, hj, rfl, rfl, hA, hB⟩ := hrel
    by_cases hlt : i < j
    · obtain ⟨m, hm⟩ : ∃ m, m = (i + j) / 2 := ⟨_, rfl⟩
      have em : ((i : Int) + (j : Int)) / 2 = (m : Int) := by omega
      have m1 : m < n := by omega
      have m2 : m < j := by omega
      have m3 : i ≤ m := by omega
      have m4 : (0 : Int) ≤ (m : Int) := by omega
      have m5 : (m : Int) < (n : Int) := by omega
      clear hm
      obtain ⟨x, hx⟩ : ∃ x, L[m]? = some x := ⟨_, List.getElem?_eq_getElem (by rw [← HN.out]; omega)⟩
      obtain ⟨b, o, rfl, d1⟩ := H.out m x.k (key_at hx)
      have HX := hid hx
      clear hx
      have HS := hid (side HU.out HX.out (k := k))
      have HG := hid (sgn_lt x.k k)
      obtain ⟨xk, xt⟩ := x
      simp only at d1 HS HG
      by_cases h0 : xk < k
      · have e0 : decide (xk < k) = true := by simpa using h0
        go_wp2_with (go_at_call 39; refine (less_any _ _ _).mono ?_; rintro e w' ⟨rfl, rfl⟩)
        go_round
        case rel => exact ⟨m + 1, j, by omega, by omega, by go_num, rfl, HS.out.1 (HG.out.2 h0), hB⟩
        case measure => simp [intOf]; omega
      · have e0 : decide (xk < k) = false := by simpa using h0
        go_wp2_with (go_at_call 39; refine (less_any _ _ _).mono ?_; rintro e w' ⟨rfl, rfl⟩)
        go_round
        case rel => exact ⟨i, m, by omega, by omega, rfl, rfl, hA, HS.out.2 (Int.not_lt.1 (fun e => by have := HG.out.1 e; omega))⟩
        case measure => simp [intOf]; omega
    · obtain rfl : i = j := by omega
      have ep : P = i := HP.out.trans (pos_at hA.out hB.out (by rw [← HN.out]; omega))
      subst ep
      by_cases hn : P < n
      · obtain ⟨x, hx⟩ : ∃ x, L[P]? = some x := ⟨_, List.getElem?_eq_getElem (by rw [← HN.out]; omega)⟩
        obtain ⟨b, o, rfl, d1⟩ := H.out P x.k (key_at hx)
        have e3 : Hid (Q = (x.k == k)) := by
          rw [HQ.out, hx]
          exact here_key x k
        have k0 : (0 : Int) ≤ (P : Int) := by omega
        have k1 : (P : Int) < (n : Int) := by omega
        have j3 : decide ((P : Int) < (n : Int)) = true := by simpa using hn
        clear hx
        obtain ⟨xk, xt⟩ := x
        simp only at d1 e3
        by_cases h0 : xk = k
        · have j4 : (xk == k) = true := by simpa using h0
          rw [j4] at e3
          go_wp2_with fail
          go_ret2
          exact ⟨by rw [e3.out]; rfl, rfl⟩
        · have j4 : (xk == k) = false := by simpa using h0
          rw [j4] at e3
          go_wp2_with (go_at_call 40; refine (isnan_any _ _).mono ?_; rintro e w' ⟨rfl, rfl⟩)
          go_ret2
          exact ⟨by rw [e3.out]; rfl, rfl⟩
      · have j3 : decide ((P : Int) < (n : Int)) = false := by simpa using hn
        have e3 : Hid (Q = false) := by
          rw [HQ.out, List.getElem?_eq_none (by rw [← HN.out]; omega)]
          exact decide_eq_false (by rintro ⟨x, hx, _⟩; cases hx)
        go_wp2_with fail
        go_ret2
        exact ⟨by rw [e3.out]; rfl, rfl⟩
end Go.Proofs.Ytlefcjgemojhpab.PTree
