/- tree's find, walked: slices.BinarySearchFunc over whatever comparison tells which of two keys is less; last, seek. They write nothing that was there. Conditions: rising entries, and how many there are. -/
import Derived.Test.YtlefcjgemojhpabTreeMem
import Derived.Deep.QuietTactic
import Derived.BigQuiet
namespace Go.Proofs.Ytlefcjgemojhpab.PTree
open Go Go.RowKit PPool
set_option maxRecDepth 100000
/-- Which of two is less. -/
def sgn (a b : Int) : Int := if a < b then -1 else if b < a then 1 else 0
set_option maxHeartbeats 1000000 in
theorem nan_any (x : Int) (w : World) : Calls Try.prog 54 #[.int .i64 x] w fun e w' => e = .returned (.bool false) ∧ w' = w := by
  go_enter Try.func54, Try.ntmps54
  go_wp2_with fail
  go_ret
  simp
set_option maxHeartbeats 1000000 in
theorem compare_any (x y : Int) (w : World) : Calls Try.prog 68 #[.int .i64 x, .int .i64 y] w fun e w' => e = .returned (.int .i64 (sgn x y)) ∧ w' = w := by
  obtain ⟨s, hs⟩ : ∃ s, s = sgn x y := ⟨_, rfl⟩
  rw [← hs]
  have HS := hid hs
  clear hs
  by_cases h1 : x < y
  · have e : s = -1 := by rw [HS.out]; unfold sgn; rw [if_pos h1]
    clear HS
    subst e
    go_enter Try.func68, Try.ntmps68
    go_wp2_with (go_at_call 54; refine (nan_any _ _).mono ?_; rintro e w' ⟨rfl, rfl⟩)
    go_ret
    exact ⟨rfl, rfl⟩
  · by_cases h2 : y < x
    · have e : s = 1 := by rw [HS.out]; unfold sgn; rw [if_neg h1, if_pos h2]
      clear HS
      subst e
      go_enter Try.func68, Try.ntmps68
      go_wp2_with (go_at_call 54; refine (nan_any _ _).mono ?_; rintro e w' ⟨rfl, rfl⟩)
      go_ret
      exact ⟨rfl, rfl⟩
    · have e : s = 0 := by rw [HS.out]; unfold sgn; rw [if_neg h1, if_neg h2]
      clear HS
      subst e
      go_enter Try.func68, Try.ntmps68
      go_wp2_with (go_at_call 54; refine (nan_any _ _).mono ?_; rintro e w' ⟨rfl, rfl⟩)
      go_ret
      exact ⟨rfl, rfl⟩
set_option maxHeartbeats 1000000 in
theorem find1_any (x : En) (k : Int) (w : World) : Calls Try.prog 67 #[.agg #[.int .i64 x.k, .string x.t], .int .i64 k] w fun e w' => e = .returned (.int .i64 (sgn x.k k)) ∧ Below w.heap.size w w' := by
  obtain ⟨a, t⟩ := x
  simp only
  go_enter Try.func67, Try.ntmps67
  go_wp2_with (go_at_call 68; refine (compare_any _ _ _).mono ?_; rintro e w' ⟨rfl, rfl⟩)
  go_ret
  exact ⟨rfl, bx _ _⟩
theorem pos_at {X : List En} {k : Int} {i : Nat} (h1 : ∀ j x, j < i → X[j]? = some x → x.k < k) (h2 : ∀ j x, i ≤ j → X[j]? = some x → k ≤ x.k) (hi : i ≤ X.length) : pos X k = i := by
  have e := List.take_append_drop i X
  have := pos_uniq (A := X.take i) (B := X.drop i) (k := k) (fun x hx => by
    obtain ⟨j, hj⟩ := List.getElem?_of_mem hx
    rw [List.getElem?_take] at hj
    split at hj
    · exact h1 j x (by assumption) hj
    · cases hj) (fun x hx => by
    rw [List.head?_drop] at hx
    exact h2 i x (Nat.le_refl _) hx)
  rw [e, List.length_take, Nat.min_eq_left hi] at this
  exact this
theorem here_sgn (x : En) (k : Int) : decide (∃ y, some x = some y ∧ y.k = k) = (sgn x.k k == 0) := by
  have e : (∃ y, some x = some y ∧ y.k = k) ↔ x.k = k := ⟨fun ⟨y, h1, h2⟩ => by cases h1; exact h2, fun h => ⟨x, rfl, h⟩⟩
  unfold sgn
  rw [decide_eq_decide.2 e]
  by_cases h1 : x.k < k
  · rw [if_pos h1, decide_eq_false (by omega)]; rfl
  · by_cases h2 : k < x.k
    · rw [if_neg h1, if_pos h2, decide_eq_false (by omega)]; rfl
    · rw [if_neg h1, if_neg h2, decide_eq_true (by omega)]; rfl
/-- The key stands at its place. -/
def hit (L : List En) (k : Int) : Bool := decide (∃ x, L[pos L k]? = some x ∧ x.k = k)
/-- A key is less than the sought one, or it isn't: so are those before, or behind. -/
theorem side {X : List En} {k : Int} {m : Nat} {x : En} (hu : Up X) (hx : X[m]? = some x) :
    (sgn x.k k < 0 → ∀ q y, q < m + 1 → X[q]? = some y → y.k < k) ∧ (¬ sgn x.k k < 0 → ∀ q y, m ≤ q → X[q]? = some y → k ≤ y.k) := by
  obtain ⟨g1, g2⟩ := List.getElem?_eq_some_iff.1 hx
  have hp := List.pairwise_iff_getElem.1 hu
  constructor
  · intro h q y hq hy
    obtain ⟨g3, g4⟩ := List.getElem?_eq_some_iff.1 hy
    have hk : x.k < k := by unfold sgn at h; by_cases e : x.k < k <;> simp only [e, if_true, if_false] at h <;> first | exact e | (split at h <;> omega)
    by_cases e : q = m
    · subst e; rw [hx] at hy; cases hy; exact hk
    · have := hp q m g3 g1 (by omega); rw [g2, g4] at this; omega
  · intro h q y hq hy
    obtain ⟨g3, g4⟩ := List.getElem?_eq_some_iff.1 hy
    have hk : ¬ x.k < k := by intro e; unfold sgn at h; rw [if_pos e] at h; omega
    by_cases e : q = m
    · subst e; rw [hx] at hy; cases hy; omega
    · have := hp m q g1 g3 (by omega); rw [g2, g4] at this; omega
set_option maxHeartbeats 2000000 in
theorem search_any (w : World) (a : Option Addr) (c : Nat) (X : List En) (k : Int) (f : Nat) (hent : ∀ (args : Array Value) (W : World), (callFunc f args).run Try.prog W = .ok (.enter f args) W)
    (hP : ∀ W (x : En), Calls Try.prog f #[.agg #[.int .i64 x.k, .string x.t], .int .i64 k] W fun e W' => e = .returned (.int .i64 (sgn x.k k)) ∧ Below W.heap.size W W') (h : TE.PgAt w a X) (hu : Up X) (hl : X.length ≤ 2000) :
    Calls Try.prog 66 #[.slice a X.length c, .int .i64 k, .func (.func f) #[] #[]] w fun e w' => e = .returned (.tuple #[.int .i64 (pos X k : Int), .bool (decide (∃ x, X[pos X k]? = some x ∧ x.k = k))]) ∧ Below w.heap.size w w' := by
  have H := hid h
  have HU := hid hu
  have KF := hid hP
  obtain ⟨P, hp⟩ : ∃ P, P = pos X k := ⟨_, rfl⟩
  rw [← hp]
  obtain ⟨Q, hq⟩ : ∃ Q, Q = decide (∃ x, X[P]? = some x ∧ x.k = k) := ⟨_, rfl⟩
  rw [← hq]
  have HP := hid hp
  have HQ := hid hq
  clear hp hq
  obtain ⟨n, hn⟩ : ∃ n, n = X.length := ⟨_, rfl⟩
  rw [← hn] at hl ⊢
  have HN := hid hn
  clear h hP hu hn
  go_enter Try.func66, Try.ntmps66
  go_wp2_with fail
  go_loopw [9, 10] (fun i j wr => ∃ a b : Nat, a ≤ b ∧ b ≤ n ∧ i = .int .i64 (a : Int) ∧ j = .int .i64 (b : Int) ∧ Hid (∀ q x, q < a → X[q]? = some x → x.k < k) ∧ Hid (∀ q x, b ≤ q → X[q]? = some x → k ≤ x.k) ∧ Hid (Below w.heap.size w wr)) (fun i j _ => (intOf j).toNat - (intOf i).toNat)
  case atStart => exact ⟨0, n, Nat.zero_le _, Nat.le_refl _, rfl, rfl, fun j x hj => by omega, fun q x hq hx => by have := (List.getElem?_eq_some_iff.1 hx).1; have := HN.out; omega, Below.refl _ _⟩
  case round =>
    obtain ⟨i, j, hij, hj, rfl, rfl, hA, hB, hb⟩ := hrel
    by_cases hlt : i < j
    · obtain ⟨m, hm⟩ : ∃ m, m = (i + j) / 2 := ⟨_, rfl⟩
      have em : ((i : Int) + (j : Int)) / 2 = (m : Int) := by omega
      have m1 : m < n := by omega
      have m2 : m < j := by omega
      have m3 : i ≤ m := by omega
      have m4 : (0 : Int) ≤ (m : Int) := by omega
      have m5 : (m : Int) < (n : Int) := by omega
      clear hm
      obtain ⟨x, hx⟩ : ∃ x, X[m]? = some x := ⟨_, List.getElem?_eq_getElem (by rw [← HN.out]; omega)⟩
      obtain ⟨b, o, rfl, d1, d2⟩ := (H.out.below hb.out) m x hx
      have HX := hid hx
      clear hx
      have KX : Hid (∀ W, Calls Try.prog f #[.agg #[.int .i64 x.k, .string x.t], .int .i64 k] W fun e W' => e = .returned (.int .i64 (sgn x.k k)) ∧ Below W.heap.size W W') := fun W => KF.out W x
      have HS := hid (side HU.out HX.out (k := k))
      obtain ⟨xk, xt⟩ := x
      simp only at d1 d2 KX HS
      obtain ⟨s, hs⟩ : ∃ s, s = sgn xk k := ⟨_, rfl⟩
      rw [← hs] at KX HS
      clear hs
      by_cases h0 : s < 0
      · have e0 : decide (s < 0) = true := by simpa using h0
        go_wp2_with fail
        refine (KX.out _).mono ?_
        rintro r w3 ⟨rfl, hb3⟩
        have B3 := hid (below_tr hb.out hb3)
        clear hb3 em
        go_wp2_with fail
        go_roundw
        case rel => exact ⟨m + 1, j, by omega, by omega, by go_num, rfl, HS.out.1 h0, hB, B3⟩
        case measure => simp [intOf]; omega
      · have e0 : decide (s < 0) = false := by simpa using h0
        go_wp2_with fail
        refine (KX.out _).mono ?_
        rintro r w3 ⟨rfl, hb3⟩
        have B3 := hid (below_tr hb.out hb3)
        clear hb3 em
        go_wp2_with fail
        go_roundw
        case rel => exact ⟨i, m, by omega, by omega, rfl, rfl, hA, HS.out.2 h0, B3⟩
        case measure => simp [intOf]; omega
    · obtain rfl : i = j := by omega
      have ep : P = i := HP.out.trans (pos_at hA.out hB.out (by rw [← HN.out]; omega))
      subst ep
      by_cases hn : P < n
      · obtain ⟨x, hx⟩ : ∃ x, X[P]? = some x := ⟨_, List.getElem?_eq_getElem (by rw [← HN.out]; omega)⟩
        obtain ⟨b, o, rfl, d1, d2⟩ := (H.out.below hb.out) P x hx
        have e3 : Hid (Q = (sgn x.k k == 0)) := by
          rw [HQ.out, hx]
          exact here_sgn x k
        have k0 : (0 : Int) ≤ (P : Int) := by omega
        have k1 : (P : Int) < (n : Int) := by omega
        have j3 : decide ((P : Int) < (n : Int)) = true := by simpa using hn
        have KX : Hid (∀ W, Calls Try.prog f #[.agg #[.int .i64 x.k, .string x.t], .int .i64 k] W fun e W' => e = .returned (.int .i64 (sgn x.k k)) ∧ Below W.heap.size W W') := fun W => KF.out W x
        clear hx
        obtain ⟨xk, xt⟩ := x
        simp only at d1 d2 KX e3
        obtain ⟨s, hs⟩ : ∃ s, s = sgn xk k := ⟨_, rfl⟩
        rw [← hs] at KX e3
        clear hs
        go_wp2_with fail
        refine (KX.out _).mono ?_
        rintro r w3 ⟨rfl, hb3⟩
        have B3 := hid (below_tr hb.out hb3)
        clear hb3
        go_wp2_with fail
        go_ret2
        exact ⟨by rw [e3.out]; rfl, B3.out⟩
      · have j3 : decide ((P : Int) < (n : Int)) = false := by simpa using hn
        have e3 : Hid (Q = false) := by
          rw [HQ.out, List.getElem?_eq_none (by rw [← HN.out]; omega)]
          exact decide_eq_false (by rintro ⟨x, hx, _⟩; cases hx)
        go_wp2_with fail
        go_ret2
        exact ⟨by rw [e3.out]; rfl, hb.out⟩
set_option maxHeartbeats 1000000 in
theorem find_any (w : World) (p : Nat) (n : Nn) (ae : Option Addr) (ce : Nat) (ab : Option Addr) (cb : Nat) (h : Opn w p n ae ce ab cb) (hu : Up n.es) (hl : n.es.length ≤ 2000) (k : Int) :
    Calls Try.prog 55 #[.pointer (some ⟨p, 0, none⟩), .int .i64 k] w fun e w' => e = .returned (.tuple #[.int .i64 (pos n.es k : Int), .bool (hit n.es k)]) ∧ Below w.heap.size w w' := by
  have c0 := h.at_.c0
  have KS := hid (search_any w ae ce n.es k 67 (fun args W => rfl) (fun W x => find1_any x k W) (TE.own_pg h.e) hu hl)
  obtain ⟨P, hP⟩ : ∃ P, P = pos n.es k := ⟨_, rfl⟩
  obtain ⟨Q, hQ⟩ : ∃ Q, Q = hit n.es k := ⟨_, rfl⟩
  have e : decide (∃ x, n.es[pos n.es k]? = some x ∧ x.k = k) = Q := by rw [hQ]; rfl
  rw [e, ← hP] at KS
  rw [← hP, ← hQ]
  clear e hP hQ h hu
  generalize n.es.length = N at *
  clear n
  go_enter Try.func55, Try.ntmps55
  go_wp2_with fail
  refine KS.out.mono ?_
  rintro r w1 ⟨rfl, hb⟩
  go_wp2_with fail
  go_ret2
  exact ⟨rfl, hb⟩
set_option maxHeartbeats 1000000 in
theorem last_any (w : World) (p : Nat) (n : Nn) (ae : Option Addr) (ce : Nat) (ab : Option Addr) (cb : Nat) (h : Opn w p n ae ce ab cb) :
    Calls Try.prog 56 #[.pointer (some ⟨p, 0, none⟩)] w fun e w' => e = .returned (.bool (n.cs.length == 0)) ∧ w' = w := by
  have c1 := h.at_.c1
  clear h
  generalize n.cs.length = N at *
  have e : ((N : Int) == 0) = (N == 0) := by
    by_cases h : N = 0
    · subst h; rfl
    · have h1 : ((N : Int) == 0) = false := by simpa using h
      have h2 : (N == 0) = false := by simpa using h
      rw [h1, h2]
  obtain ⟨B, hB⟩ : ∃ B, B = (N == 0) := ⟨_, rfl⟩
  rw [← hB] at e ⊢
  clear hB
  go_enter Try.func56, Try.ntmps56
  go_wp2_with fail
  go_ret
  exact ⟨rfl, rfl⟩
end Go.Proofs.Ytlefcjgemojhpab.PTree
