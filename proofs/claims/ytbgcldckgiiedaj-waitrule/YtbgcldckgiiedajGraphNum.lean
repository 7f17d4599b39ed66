/-
  Who is ahead of whom in plain words (no program in it): sets of nodes as numbers, bit by bit; to which nodes one comes along edges; the order in which all ahead of a node stand before it; the parts. And what follows: KAHN: in an order each edge goes forward, and there is one just if no node comes to itself; TARJAN: the parts are the classes of those that come to each other. No conditions.
-/
import Derived.Lib.TrailingZeros
namespace Go.Proofs.Ytbgcldckgiiedaj.PGraph
namespace Gr

/-- An edge: from where, and to where. -/
structure Ed where
  f : Int
  t : Int
deriving DecidableEq, Inhabited
def ed (i j : Nat) : Ed := ⟨i, j⟩

/-- What is wrong with a graph. -/
def node (n k : Int) : Bool := decide (0 ≤ k) && decide (k < n)
def check (n : Int) (X : List Ed) : Int :=
  if n < 0 ∨ 60 < n then 1 else if 2000 < X.length then 2 else if X.all (fun e => node n e.f && node n e.t) then 0 else 4
theorem check_ok {n : Int} {X : List Ed} (h : check n X = 0) : 0 ≤ n ∧ n ≤ 60 ∧ X.length ≤ 2000 ∧ ∀ e ∈ X, 0 ≤ e.f ∧ e.f < n ∧ 0 ≤ e.t ∧ e.t < n := by
  unfold check at h
  split at h
  · cases h
  split at h
  · cases h
  split at h
  · rename_i h1 h2 h3
    refine ⟨by omega, by omega, by omega, fun e he => ?_⟩
    have := List.all_eq_true.1 h3 e he
    simp [node] at this
    omega
  · cases h

def okE (n : Int) (e : Ed) : Bool := node n e.f && node n e.t
theorem check_few {n : Int} {X : List Ed} (h : n < 0 ∨ 60 < n) : check n X = 1 := by unfold check; rw [if_pos h]
theorem check_many {n : Int} {X : List Ed} (h : ¬ (n < 0 ∨ 60 < n)) (h2 : 2000 < X.length) : check n X = 2 := by unfold check; rw [if_neg h, if_pos h2]
theorem check_bad {n : Int} {X : List Ed} (h : ¬ (n < 0 ∨ 60 < n)) (h2 : ¬ 2000 < X.length) {x : Ed} (hx : x ∈ X) (hb : okE n x = false) : check n X = 4 := by
  unfold check
  rw [if_neg h, if_neg h2, if_neg]
  intro ha
  have := List.all_eq_true.1 ha x hx
  rw [show (node n x.f && node n x.t) = okE n x from rfl, hb] at this
  cases this
theorem check_good {n : Int} {X : List Ed} (h : ¬ (n < 0 ∨ 60 < n)) (h2 : ¬ 2000 < X.length) (ha : ∀ x ∈ X, okE n x = true) : check n X = 0 := by
  unfold check
  have : X.all (fun e => node n e.f && node n e.t) = true := List.all_eq_true.2 ha
  rw [if_neg h, if_neg h2, if_pos this]
theorem ok_take {n : Int} {X : List Ed} {k : Nat} {x : Ed} (h : ∀ y ∈ X.take k, okE n y = true) (hx : X[k]? = some x) (ho : okE n x = true) : ∀ y ∈ X.take (k + 1), okE n y = true := by
  intro y hy
  obtain ⟨h1, h2⟩ := List.getElem?_eq_some_iff.1 hx
  rw [List.take_succ_eq_append_getElem h1, List.mem_append, List.mem_singleton, h2] at hy
  rcases hy with hy | rfl
  · exact h y hy
  · exact ho

/-- There is an edge. -/
def E (X : List Ed) (i j : Nat) : Bool := decide (ed i j ∈ X)
theorem E_snoc (X : List Ed) (i j a b : Nat) : E (X ++ [ed a b]) i j = (E X i j || (decide (i = a) && decide (j = b))) := by
  simp only [E, List.mem_append, List.mem_singleton, ed, Ed.mk.injEq, Int.ofNat_inj, Bool.decide_or, Bool.decide_and]
  congr

/-- One comes from i to j, with none but the first b nodes between. -/
def W (X : List Ed) : Nat → Nat → Nat → Bool
  | 0, i, j => E X i j
  | b + 1, i, j => W X b i j || (W X b i b && W X b b j)
theorem W_mono (X : List Ed) (b i j : Nat) (h : W X b i j = true) : W X (b + 1) i j = true := by simp [W, h]
theorem W_row (X : List Ed) (b j : Nat) : W X (b + 1) b j = W X b b j := by
  simp only [W]; cases W X b b j <;> simp
theorem W_col (X : List Ed) (b i : Nat) : W X (b + 1) i b = W X b i b := by
  simp only [W]; cases W X b i b <;> simp
theorem W_edge (X : List Ed) (i j : Nat) (h : E X i j = true) : ∀ b, W X b i j = true
  | 0 => h
  | b + 1 => W_mono X b i j (W_edge X i j h b)
/-- One way behind another. -/
theorem W_trans (X : List Ed) : ∀ b i k j, k < b → W X b i k = true → W X b k j = true → W X b i j = true
  | 0, _, _, _, h, _, _ => absurd h (Nat.not_lt_zero _)
  | b + 1, i, k, j, h, h1, h2 => by
    rcases Nat.lt_or_ge k b with hk | hk
    · have T := W_trans X b
      simp only [W, Bool.or_eq_true, Bool.and_eq_true] at h1 h2 ⊢
      rcases h1 with h1 | ⟨h1, h1'⟩ <;> rcases h2 with h2 | ⟨h2, h2'⟩
      · exact .inl (T i k j hk h1 h2)
      · exact .inr ⟨T i k b hk h1 h2, h2'⟩
      · exact .inr ⟨h1, T b k j hk h1' h2⟩
      · exact .inr ⟨h1, h2'⟩
    · have : k = b := by omega
      subst this
      rw [W_col] at h1
      rw [W_row] at h2
      simp [W, h1, h2]
/-- A way has a last edge. -/
theorem W_last (X : List Ed) (N : Nat) (hX : ∀ i j, E X i j = true → i < N) : ∀ b i j, b ≤ N → W X b i j = true → (E X i j = true ∨ ∃ k, k < N ∧ W X b i k = true ∧ E X k j = true)
  | 0, i, j, _, h => .inl h
  | b + 1, i, j, hb, h => by
    have T := W_last X N hX b
    simp only [W, Bool.or_eq_true, Bool.and_eq_true] at h
    rcases h with h | ⟨h1, h2⟩
    · rcases T i j (by omega) h with h | ⟨k, hk, h1, h2⟩
      · exact .inl h
      · exact .inr ⟨k, hk, W_mono X b i k h1, h2⟩
    · rcases T b j (by omega) h2 with h | ⟨k, hk, h3, h4⟩
      · exact .inr ⟨b, by omega, W_mono X b i b h1, h⟩
      · exact .inr ⟨k, hk, by simp [W, h1, h3], h4⟩
/-- Where all ahead of each stand with it, all from which one comes to it do. -/
theorem W_closed (X : List Ed) (p : Nat → Bool) (hp : ∀ i k, p k = true → E X i k = true → p i = true) : ∀ b i k, p k = true → W X b i k = true → p i = true
  | 0, i, k, h, h1 => hp i k h h1
  | b + 1, i, k, h, h1 => by
    simp only [W, Bool.or_eq_true, Bool.and_eq_true] at h1
    rcases h1 with h1 | ⟨h1, h2⟩
    · exact W_closed X p hp b i k h h1
    · exact W_closed X p hp b i b (W_closed X p hp b b k h h2) h1

/-- Of some, with a relation that goes on and on and never comes back, one is first. -/
theorem first_of (R : Nat → Nat → Bool) (ht : ∀ a b c, R a b = true → R b c = true → R a c = true) (hi : ∀ a, R a a = false) :
    ∀ S : List Nat, S ≠ [] → ∃ m ∈ S, ∀ x ∈ S, R x m = false
  | [], h => absurd rfl h
  | [x], _ => ⟨x, by simp, by simp [hi]⟩
  | x :: y :: S, _ => by
    obtain ⟨m, hm, h⟩ := first_of R ht hi (y :: S) (by simp)
    cases hx : R x m with
    | false =>
      refine ⟨m, List.mem_cons_of_mem _ hm, fun z hz => ?_⟩
      rcases List.mem_cons.1 hz with rfl | hz
      · exact hx
      · exact h z hz
    | true =>
      refine ⟨x, List.mem_cons_self, fun z hz => ?_⟩
      rcases List.mem_cons.1 hz with rfl | hz
      · exact hi _
      · cases hr : R z x with
        | false => rfl
        | true =>
          have h1 := ht z x m hr hx
          have h2 := h z hz
          rw [h1] at h2; cases h2

/-! Sets as numbers -/
def mask (p : Nat → Bool) : Nat → Nat
  | 0 => 0
  | k + 1 => mask p k ||| (if p k then 2 ^ k else 0)
theorem testBit_mask (p : Nat → Bool) : ∀ n i, (mask p n).testBit i = (decide (i < n) && p i)
  | 0, i => by simp [mask]
  | n + 1, i => by
    rw [mask, Nat.testBit_or, testBit_mask p n i]
    by_cases h : i = n
    · subst h
      cases hp : p i <;> simp [Nat.testBit_two_pow_self]
    · have h2 : (if p n then 2 ^ n else 0 : Nat).testBit i = false := by
        split
        · exact Nat.testBit_two_pow_of_ne (Ne.symm h)
        · simp
      rw [h2, Bool.or_false]
      congr 1
      simp only [decide_eq_decide]
      omega
theorem mask_lt (p : Nat → Bool) : ∀ n, mask p n < 2 ^ n
  | 0 => by simp [mask]
  | n + 1 => by
    rw [mask]
    refine Nat.or_lt_two_pow (Nat.lt_of_lt_of_le (mask_lt p n) (Nat.pow_le_pow_right (by omega) (by omega))) ?_
    split
    · exact Nat.pow_lt_pow_right (by omega) (by omega)
    · exact Nat.two_pow_pos _
theorem mask_lt64 (p : Nat → Bool) {n : Nat} (h : n ≤ 60) : mask p n < 18446744073709551616 :=
  Nat.lt_of_lt_of_le (mask_lt p n) (Nat.le_trans (Nat.pow_le_pow_right (by omega) h) (by decide))
theorem mask_congr {p q : Nat → Bool} {n : Nat} (h : ∀ i, i < n → p i = q i) : mask p n = mask q n := by
  apply Nat.eq_of_testBit_eq
  intro i
  rw [testBit_mask, testBit_mask]
  by_cases hi : i < n
  · simp [h i hi]
  · simp [hi]
theorem mask_none (n : Nat) : mask (fun _ => false) n = 0 := by
  apply Nat.eq_of_testBit_eq
  intro i
  simp [testBit_mask]
theorem mask_or (p q : Nat → Bool) (n : Nat) : mask p n ||| mask q n = mask (fun i => p i || q i) n := by
  apply Nat.eq_of_testBit_eq
  intro i
  simp only [Nat.testBit_or, testBit_mask]
  cases decide (i < n) <;> simp
theorem mask_one (p : Nat → Bool) {n k : Nat} (h : k < n) : mask p n ||| 2 ^ k = mask (fun i => p i || decide (i = k)) n := by
  apply Nat.eq_of_testBit_eq
  intro i
  simp only [Nat.testBit_or, testBit_mask, Nat.testBit_two_pow]
  by_cases hi : i = k
  · subst hi; simp [h]
  · have : ¬ k = i := fun e => hi e.symm
    simp [hi, this]
theorem one_mask {n k : Nat} (h : k < n) : 2 ^ k = mask (fun i => decide (i = k)) n := by
  have := mask_one (fun _ => false) h
  rw [mask_none, Nat.zero_or] at this
  simpa using this
/-- Of one set nothing is left without another. -/
theorem mask_andNot (p q : Nat → Bool) {n : Nat} (hn : n ≤ 60) : (mask p n &&& (18446744073709551615 - mask q n) = 0) ↔ ∀ i, i < n → p i = true → q i = true := by
  have hq := mask_lt64 q hn
  have e : 18446744073709551615 - mask q n = 2 ^ 64 - (mask q n + 1) := by omega
  rw [e]
  constructor
  · intro h i hi hp
    have := congrArg (·.testBit i) h
    simp only [Nat.testBit_and, testBit_mask, Nat.zero_testBit] at this
    rw [Nat.testBit_two_pow_sub_succ (by omega)] at this
    simp only [testBit_mask, hi, hp, decide_true, Bool.true_and] at this
    have h64 : i < 64 := by omega
    simpa [h64] using this
  · intro h
    apply Nat.eq_of_testBit_eq
    intro i
    rw [Nat.testBit_and, Nat.testBit_two_pow_sub_succ (by omega), testBit_mask, testBit_mask, Nat.zero_testBit]
    by_cases hi : i < n
    · cases hp : p i with
      | false => simp
      | true => simp [hi, h i hi hp]
    · simp [hi]
theorem mask_has (p : Nat → Bool) {n k : Nat} : (mask p n &&& 2 ^ k = 0) ↔ (decide (k < n) && p k) = false := by
  rw [← testBit_mask p n k]
  constructor
  · intro h
    have := congrArg (·.testBit k) h
    simpa [Nat.testBit_and, Nat.testBit_two_pow_self] using this
  · intro h
    apply Nat.eq_of_testBit_eq
    intro i
    rw [Nat.testBit_and, Nat.testBit_two_pow, Nat.zero_testBit]
    by_cases hi : k = i
    · subst hi; simp [h]
    · simp [hi]
theorem has_bit (s k : Nat) : (s &&& 2 ^ k = 0) ↔ s.testBit k = false := by
  constructor
  · intro h
    have := congrArg (·.testBit k) h
    simpa [Nat.testBit_and, Nat.testBit_two_pow_self] using this
  · intro h
    apply Nat.eq_of_testBit_eq
    intro i
    rw [Nat.testBit_and, Nat.testBit_two_pow, Nat.zero_testBit]
    by_cases hi : k = i
    · subst hi; simp [h]
    · simp [hi]

/-- The nodes of a set, rising. -/
def up (s : Nat) : List Nat := (List.range 64).filter (fun i => s.testBit i)
theorem up_len (s : Nat) : (up s).length ≤ 64 := by
  have := List.length_filter_le (fun i => s.testBit i) (List.range 64)
  simpa [up] using this
theorem up_zero : up 0 = [] := by simp [up]
theorem filter_range_cut (p : Nat → Bool) {n m : Nat} (h : n ≤ m) (hp : ∀ i, n ≤ i → p i = false) : (List.range m).filter p = (List.range n).filter p := by
  have : m = n + (m - n) := by omega
  rw [this, List.range_add, List.filter_append]
  have : ((List.range (m - n)).map (fun x => n + x)).filter p = [] := by
    rw [List.filter_eq_nil_iff]
    intro x hx
    obtain ⟨y, _, rfl⟩ := List.mem_map.1 hx
    simp [hp (n + y) (by omega)]
  rw [this, List.append_nil]
theorem up_mask (p : Nat → Bool) {n : Nat} (h : n ≤ 60) : up (mask p n) = (List.range n).filter p := by
  unfold up
  rw [filter_range_cut _ (n := n) (by omega) (fun i hi => by rw [testBit_mask]; simp; omega)]
  apply List.filter_congr
  intro i hi
  rw [testBit_mask]
  simp [List.mem_range.1 hi]
theorem low_bits {s : Nat} (h0 : s ≠ 0) (h : s < 2 ^ 64) : ∃ c, c = Go.Lib.ctz 64 s ∧ c < 64 ∧ s.testBit c = true ∧ (∀ i, i < c → s.testBit i = false) ∧ ∀ i, (s &&& (s - 1)).testBit i = (s.testBit i && !decide (i = c)) := by
  obtain ⟨m, hm, hk⟩ := Go.Lib.ctzFrom_spec 64 s (by omega) h
  have ec : Go.Lib.ctz 64 s = Go.Lib.ctzFrom 64 s := by simp [Go.Lib.ctz, h0]
  generalize hc : Go.Lib.ctzFrom 64 s = c at hm hk ec
  have tb : ∀ i, s.testBit i = (decide (c ≤ i) && (2 * m + 1).testBit (i - c)) := by
    intro i
    rw [hm, Nat.mul_comm, Nat.testBit_mul_two_pow]
  have e1 : s - 1 = 2 ^ c * (2 * m) + (2 ^ c - 1) := by
    have : 0 < 2 ^ c := Nat.two_pow_pos c
    rw [hm, Nat.mul_add, Nat.mul_one]
    omega
  have tb1 : ∀ i, c ≤ i → (s - 1).testBit i = (2 * m).testBit (i - c) := by
    intro i hi
    rw [e1, Nat.testBit_two_pow_mul_add _ (Nat.sub_lt (Nat.two_pow_pos c) (by omega))]
    simp [Nat.not_lt.2 hi]
  refine ⟨c, ec.symm, hk, ?_, fun i hi => ?_, fun i => ?_⟩
  · rw [tb]; simp
  · rw [tb]; simp; omega
  · rw [Nat.testBit_and]
    by_cases hi : i = c
    · subst hi
      rw [tb1 i (by omega)]
      simp
    · by_cases hc : c ≤ i
      · rw [tb1 i hc, tb i]
        obtain ⟨j, hj⟩ : ∃ j, i - c = j + 1 := ⟨i - c - 1, by omega⟩
        rw [hj, Nat.testBit_succ, Nat.testBit_succ]
        have d1 : (2 * m + 1) / 2 = m := by omega
        have d2 : 2 * m / 2 = m := by omega
        rw [d1, d2]
        simp [hc, hi]
      · rw [tb i]
        simp [hc]
theorem up_step {s : Nat} (h0 : s ≠ 0) (h : s < 2 ^ 64) : up s = Go.Lib.ctz 64 s :: up (s &&& (s - 1)) := by
  obtain ⟨c, ec, hc, h1, h2, h3⟩ := low_bits h0 h
  rw [← ec]
  unfold up
  have e : (64 : Nat) = c + (1 + (63 - c)) := by omega
  rw [e, List.range_add, List.range_add, List.map_append, List.filter_append, List.filter_append, List.filter_append, List.filter_append]
  have a1 : (List.range c).filter (fun i => s.testBit i) = [] := by
    rw [List.filter_eq_nil_iff]; intro x hx; simp [h2 x (List.mem_range.1 hx)]
  have a2 : (List.range c).filter (fun i => (s &&& (s - 1)).testBit i) = [] := by
    rw [List.filter_eq_nil_iff]; intro x hx; rw [h3]; simp [h2 x (List.mem_range.1 hx)]
  have b1 : ((List.range 1).map (fun x => c + x)).filter (fun i => s.testBit i) = [c] := by
    simp [List.range_succ, h1]
  have b2 : ((List.range 1).map (fun x => c + x)).filter (fun i => (s &&& (s - 1)).testBit i) = [] := by
    have : (s &&& (s - 1)).testBit c = false := by rw [h3]; simp
    simp [List.range_succ, -Nat.testBit_and, this]
  rw [a1, a2, b1, b2, List.nil_append, List.nil_append, List.nil_append, List.singleton_append]
  congr 1
  apply List.filter_congr
  intro x hx
  obtain ⟨y, hy, rfl⟩ := List.mem_map.1 hx
  obtain ⟨z, _, rfl⟩ := List.mem_map.1 hy
  rw [h3]
  simp

/-! Rows of sets -/
def row (n : Nat) (F : Nat → Nat) : List Nat := (List.range n).map F
theorem row_len (n : Nat) (F : Nat → Nat) : (row n F).length = n := by simp [row]
theorem row_at {n j : Nat} (F : Nat → Nat) (h : j < n) : (row n F)[j]? = some (F j) := by simp [row, h]
theorem row_congr {n : Nat} {F G : Nat → Nat} (h : ∀ t, t < n → F t = G t) : row n F = row n G := List.map_congr_left fun t ht => h t (List.mem_range.1 ht)
theorem row_set (n : Nat) (F : Nat → Nat) (j v : Nat) : (row n F).set j v = row n (fun t => if t = j then v else F t) := by
  apply List.ext_getElem?
  intro i
  rw [List.getElem?_set, row_len]
  by_cases hi : i < n
  · rw [row_at _ hi, row_at _ hi]
    by_cases hj : j = i
    · subst hj; simp [hi]
    · have : ¬ i = j := fun e => hj e.symm
      simp [hj, this]
  · have h1 : (row n F)[i]? = none := List.getElem?_eq_none (by rw [row_len]; omega)
    have h2 : (row n (fun t => if t = j then v else F t))[i]? = none := List.getElem?_eq_none (by rw [row_len]; omega)
    rw [h1, h2]
    split
    · split
      · omega
      · rfl
    · rfl
theorem E_take {X : List Ed} {k a b : Nat} (hx : X[k]? = some (ed a b)) (i j : Nat) : E (X.take (k + 1)) i j = (E (X.take k) i j || (decide (i = a) && decide (j = b))) := by
  obtain ⟨h1, h2⟩ := List.getElem?_eq_some_iff.1 hx
  rw [List.take_succ_eq_append_getElem h1, h2, E_snoc]
/-- Of each node: from which ones an edge goes to it; to which ones one goes from it: the first k edges. -/
def aheadRow (X : List Ed) (n k : Nat) : List Nat := row n (fun t => mask (fun i => E (X.take k) i t) n)
def nextRow (X : List Ed) (n k : Nat) : List Nat := row n (fun i => mask (fun t => E (X.take k) i t) n)
theorem aheadRow_none (X : List Ed) (n : Nat) : aheadRow X n 0 = List.replicate n 0 := by
  have : aheadRow X n 0 = row n (fun _ => 0) := row_congr fun t _ => by
    rw [show (fun i => E (X.take 0) i t) = fun _ => false from by funext i; simp [E], mask_none]
  rw [this, row, List.map_const', List.length_range]
theorem nextRow_none (X : List Ed) (n : Nat) : nextRow X n 0 = List.replicate n 0 := by
  have : nextRow X n 0 = row n (fun _ => 0) := row_congr fun t _ => by
    rw [show (fun i => E (X.take 0) t i) = fun _ => false from by funext i; simp [E], mask_none]
  rw [this, row, List.map_const', List.length_range]
theorem aheadRow_next {X : List Ed} {n k i j : Nat} (hx : X[k]? = some (ed i j)) (hi : i < n) (hj : j < n) :
    ∃ v, (aheadRow X n k)[j]? = some v ∧ v < 2 ^ n ∧ aheadRow X n (k + 1) = (aheadRow X n k).set j (v ||| 2 ^ i) := by
  refine ⟨_, row_at _ hj, mask_lt _ n, ?_⟩
  unfold aheadRow
  rw [row_set]
  refine row_congr fun t _ => ?_
  rw [mask_one _ hi]
  split
  · rename_i h; subst h
    exact mask_congr fun a _ => by rw [E_take hx]; simp
  · rename_i h
    exact mask_congr fun a _ => by rw [E_take hx]; simp [h]
theorem nextRow_next {X : List Ed} {n k i j : Nat} (hx : X[k]? = some (ed i j)) (hi : i < n) (hj : j < n) :
    ∃ v, (nextRow X n k)[i]? = some v ∧ v < 2 ^ n ∧ nextRow X n (k + 1) = (nextRow X n k).set i (v ||| 2 ^ j) := by
  refine ⟨_, row_at _ hi, mask_lt _ n, ?_⟩
  unfold nextRow
  rw [row_set]
  refine row_congr fun t _ => ?_
  rw [mask_one _ hj]
  split
  · rename_i h; subst h
    exact mask_congr fun a _ => by rw [E_take hx]; simp
  · rename_i h
    exact mask_congr fun a _ => by rw [E_take hx]; simp [h]
/-- To which nodes one comes: behind the first b rounds, and of round b the first f nodes. -/
def wayRow (X : List Ed) (n b f : Nat) : List Nat := row n (fun i => mask (W X (if i < f then b + 1 else b) i) n)
theorem wayRow_start (X : List Ed) (n : Nat) : nextRow X n X.length = wayRow X n 0 0 := row_congr fun t _ => by
  rw [List.take_length]; rfl
theorem wayRow_round (X : List Ed) (n b : Nat) : wayRow X n b n = wayRow X n (b + 1) 0 := row_congr fun t ht => by
  rw [if_pos ht, if_neg (Nat.not_lt_zero _)]
theorem wayRow_at {X : List Ed} {n b f : Nat} (hf : f < n) : (wayRow X n b f)[f]? = some (mask (W X b f) n) := by
  unfold wayRow
  rw [row_at _ hf, if_neg (Nat.lt_irrefl _)]
theorem wayRow_between {X : List Ed} {n b f : Nat} (hb : b < n) : (wayRow X n b f)[b]? = some (mask (W X b b) n) := by
  unfold wayRow
  rw [row_at _ hb]
  split
  · rw [mask_congr fun j _ => W_row X b j]
  · rfl
theorem wayRow_hit {X : List Ed} {n b f : Nat} (h : W X b f b = true) : wayRow X n b (f + 1) = (wayRow X n b f).set f (mask (W X b f) n ||| mask (W X b b) n) := by
  unfold wayRow
  rw [row_set, mask_or]
  refine row_congr fun t _ => ?_
  by_cases ht : t = f
  · subst ht
    rw [if_pos (by omega), if_pos rfl]
    exact mask_congr fun j _ => by simp [W, h]
  · rw [if_neg ht]
    congr 2
    by_cases h2 : t < f
    · rw [if_pos h2, if_pos (by omega)]
    · rw [if_neg h2, if_neg (by omega)]
theorem wayRow_miss {X : List Ed} {n b f : Nat} (h : W X b f b = false) : wayRow X n b (f + 1) = wayRow X n b f := by
  refine row_congr fun t _ => ?_
  by_cases ht : t = f
  · subst ht
    rw [if_pos (by omega), if_neg (by omega)]
    exact mask_congr fun j _ => by simp [W, h]
  · congr 2
    by_cases h2 : t < f
    · rw [if_pos h2, if_pos (by omega)]
    · rw [if_neg h2, if_neg (by omega)]
def ways (X : List Ed) (n : Nat) : List Nat := row n (fun i => mask (W X n i) n)
theorem ways_eq (X : List Ed) (n : Nat) : wayRow X n n 0 = ways X n := row_congr fun t _ => by rw [if_neg (Nat.not_lt_zero _)]
def aheads (X : List Ed) (n : Nat) : List Nat := row n (fun t => mask (fun i => E X i t) n)
theorem aheads_eq (X : List Ed) (n : Nat) : aheadRow X n X.length = aheads X n := by unfold aheadRow aheads; rw [List.take_length]

/-! Orders -/
/-- k can stand next, behind those in l. -/
def ready (X : List Ed) (n : Nat) (l : List Nat) (k : Nat) : Bool := !l.contains k && (List.range n).all (fun i => !E X i k || l.contains i)
def next (X : List Ed) (n : Nat) (l : List Nat) : Option Nat := (List.range n).find? (ready X n l)
def ord (X : List Ed) (n : Nat) : Nat → List Nat → Option (List Nat)
  | 0, l => some l
  | m + 1, l => match next X n l with
    | none => none
    | some k => ord X n m (l ++ [k])
def order (X : List Ed) (n : Nat) : Option (List Nat) := ord X n n []

theorem next_is {X : List Ed} {n k : Nat} {l : List Nat} (h : ∀ j, j < k → ready X n l j = false) (hk : k < n) (hr : ready X n l k = true) : next X n l = some k := by
  unfold next
  rw [List.find?_range_eq_some]
  exact ⟨hr, List.mem_range.2 hk, fun j hj => by rw [h j hj]; rfl⟩
theorem next_no {X : List Ed} {n : Nat} {l : List Nat} (h : ∀ j, j < n → ready X n l j = false) : next X n l = none := by
  unfold next
  rw [List.find?_range_eq_none]
  exact fun j hj => by rw [h j hj]; rfl
def numOf : Option Nat → Int
  | some k => k
  | none => -1
theorem ready_bits (X : List Ed) {n k : Nat} (l : List Nat) (hn : n ≤ 60) (hk : k < n) : ready X n l k = (!(mask (fun i => l.contains i) n).testBit k && decide (mask (fun i => E X i k) n &&& (18446744073709551615 - mask (fun i => l.contains i) n) = 0)) := by
  unfold ready
  rw [testBit_mask, decide_eq_true hk, Bool.true_and]
  congr 1
  rw [Bool.eq_iff_iff, decide_eq_true_eq, mask_andNot _ _ hn]
  simp only [List.all_eq_true, List.mem_range, Bool.or_eq_true, Bool.not_eq_true']
  constructor
  · intro h i hi he
    exact (h i hi).resolve_left (by rw [he]; simp)
  · intro h i hi
    cases he : E X i k with
    | false => exact .inl rfl
    | true => exact .inr (h i hi he)

/-- What stands so far is as it should. -/
structure Fine (X : List Ed) (n : Nat) (l : List Nat) : Prop where
  lt : ∀ k ∈ l, k < n
  nd : l.Nodup
  pre : ∀ (b k : Nat), l[b]? = some k → ∀ i, i < n → E X i k = true → ∃ a : Nat, a < b ∧ l[a]? = some i
theorem Fine.nil (X : List Ed) (n : Nat) : Fine X n [] := ⟨by simp, by simp, by simp⟩
theorem ready_of {X : List Ed} {n : Nat} {l : List Nat} {k : Nat} : ready X n l k = true ↔ k ∉ l ∧ ∀ i, i < n → E X i k = true → i ∈ l := by
  simp only [ready, Bool.and_eq_true, Bool.not_eq_true', List.all_eq_true, List.mem_range, Bool.or_eq_true, List.contains_iff_mem, ← Bool.not_eq_true]
  constructor
  · rintro ⟨h1, h2⟩
    exact ⟨h1, fun i hi he => (h2 i hi).resolve_left (fun h => h he)⟩
  · rintro ⟨h1, h2⟩
    refine ⟨h1, fun i hi => ?_⟩
    by_cases he : E X i k = true
    · exact .inr (h2 i hi he)
    · exact .inl he
theorem next_some {X : List Ed} {n : Nat} {l : List Nat} {k : Nat} (h : next X n l = some k) : k < n ∧ ready X n l k = true :=
  ⟨List.mem_range.1 (List.mem_of_find?_eq_some h), List.find?_some h⟩
theorem Fine.snoc {X : List Ed} {n : Nat} {l : List Nat} {k : Nat} (h : Fine X n l) (hk : next X n l = some k) : Fine X n (l ++ [k]) := by
  obtain ⟨h1, h2⟩ := next_some hk
  obtain ⟨h3, h4⟩ := ready_of.1 h2
  refine ⟨fun x hx => ?_, ?_, fun b x hb i hi he => ?_⟩
  · rcases List.mem_append.1 hx with hx | hx
    · exact h.lt x hx
    · rw [List.mem_singleton.1 hx]; exact h1
  · rw [List.nodup_append]
    refine ⟨h.nd, by simp, fun a ha b hb e => ?_⟩
    rw [List.mem_singleton.1 hb] at e
    exact h3 (e ▸ ha)
  · rcases Nat.lt_or_ge b l.length with hl | hl
    · rw [List.getElem?_append_left hl] at hb
      obtain ⟨a, ha, e⟩ := h.pre b x hb i hi he
      exact ⟨a, ha, by rw [List.getElem?_append_left (by omega)]; exact e⟩
    · rw [List.getElem?_append_right hl] at hb
      obtain ⟨hb1, hb2⟩ := List.getElem?_eq_some_iff.1 hb
      simp at hb1 hb2
      subst hb2
      obtain ⟨a, ha, e⟩ := List.mem_iff_getElem.1 (h4 i hi he)
      exact ⟨a, by omega, by rw [List.getElem?_append_left ha, List.getElem?_eq_getElem ha, e]⟩
theorem ord_some {X : List Ed} {n : Nat} : ∀ m l l', Fine X n l → ord X n m l = some l' → Fine X n l' ∧ l'.length = l.length + m
  | 0, l, l', h, e => by injection e with e; subst e; exact ⟨h, rfl⟩
  | m + 1, l, l', h, e => by
    simp only [ord] at e
    split at e
    · cases e
    · rename_i k hk
      obtain ⟨h1, h2⟩ := ord_some m _ l' (h.snoc hk) e
      refine ⟨h1, ?_⟩
      rw [h2, List.length_append, List.length_singleton]
      omega
theorem order_some {X : List Ed} {n : Nat} {l : List Nat} (h : order X n = some l) : Fine X n l ∧ l.length = n := by
  obtain ⟨h1, h2⟩ := ord_some n [] l (Fine.nil X n) h
  exact ⟨h1, by simpa using h2⟩
/-- A duplicate-free row of as many as there may be has each. -/
theorem all_in : ∀ (n : Nat) (l : List Nat), l.Nodup → (∀ k ∈ l, k < n) → l.length ≤ n ∧ (l.length = n → ∀ k, k < n → k ∈ l)
  | 0, l, _, h => by
    cases l with
    | nil => exact ⟨by simp, fun _ k hk => by omega⟩
    | cons x l => exact absurd (h x List.mem_cons_self) (Nat.not_lt_zero _)
  | n + 1, l, hd, h => by
    have he : (l.erase n).Nodup := hd.erase n
    have hl : ∀ k ∈ l.erase n, k < n := fun k hk => by
      have h1 := h k (List.mem_of_mem_erase hk)
      have h2 : k ≠ n := (List.Nodup.mem_erase_iff hd).1 hk |>.1
      omega
    obtain ⟨h1, h2⟩ := all_in n (l.erase n) he hl
    by_cases hn : n ∈ l
    · have e := List.length_erase_of_mem hn
      have hp : 0 < l.length := List.length_pos_of_mem hn
      refine ⟨by omega, fun hh k hk => ?_⟩
      rcases Nat.lt_or_ge k n with hk' | hk'
      · exact List.mem_of_mem_erase (h2 (by omega) k hk')
      · have : k = n := by omega
        subst this; exact hn
    · rw [List.erase_of_not_mem hn] at h1 h2
      exact ⟨by omega, fun hh => absurd h1 (by omega)⟩
theorem all_len : ∀ (n : Nat) (l : List Nat), (∀ k, k < n → k ∈ l) → n ≤ l.length
  | 0, _, _ => Nat.zero_le _
  | n + 1, l, h => by
    have h1 := all_len n (l.erase n) (fun k hk => (List.mem_erase_of_ne (by omega)).2 (h k (by omega)))
    have h2 := h n (by omega)
    have := List.length_pos_of_mem h2
    rw [List.length_erase_of_mem h2] at h1
    omega
/-- Where nobody can stand next while some are left, one comes to itself. -/
theorem stuck {X : List Ed} {n : Nat} {l : List Nat} (hl : l.length < n) (hn : next X n l = none) : ∃ k, k < n ∧ W X n k k = true := by
  apply Classical.byContradiction
  intro hc
  have hi : ∀ a, a < n → W X n a a = false := fun a ha => by
    cases e : W X n a a with
    | false => rfl
    | true => exact absurd ⟨a, ha, e⟩ hc
  let R : Nat → Nat → Bool := fun a b => decide (a < n) && decide (b < n) && W X n a b
  have hR : ∀ a b, R a b = true ↔ a < n ∧ b < n ∧ W X n a b = true := fun a b => by simp [R, and_assoc]
  let S := (List.range n).filter (fun k => !l.contains k)
  have hS : S ≠ [] := by
    intro hs
    have : ∀ k, k < n → k ∈ l := fun k hk => by
      have := List.filter_eq_nil_iff.1 hs k (List.mem_range.2 hk)
      simpa using this
    have := all_len n l this
    omega
  obtain ⟨m, hm, hmin⟩ := first_of R (fun a b c h1 h2 => by
      obtain ⟨a1, a2, a3⟩ := (hR a b).1 h1
      obtain ⟨b1, b2, b3⟩ := (hR b c).1 h2
      exact (hR a c).2 ⟨a1, b2, W_trans X n a b c a2 a3 b3⟩) (fun a => by
      cases e : R a a with
      | false => rfl
      | true =>
        obtain ⟨a1, _, a3⟩ := (hR a a).1 e
        rw [hi a a1] at a3; cases a3) S hS
  have hm' := List.mem_filter.1 hm
  have hmn := List.mem_range.1 hm'.1
  have hml : m ∉ l := by simpa using hm'.2
  have := List.find?_eq_none.1 hn m hm'.1
  apply this
  rw [ready_of]
  refine ⟨hml, fun i hi' he => ?_⟩
  apply Classical.byContradiction
  intro hil
  have := hmin i (List.mem_filter.2 ⟨List.mem_range.2 hi', by simpa using hil⟩)
  rw [show R i m = true from (hR i m).2 ⟨hi', hmn, W_edge X i m he n⟩] at this
  cases this
theorem ord_none {X : List Ed} {n : Nat} : ∀ m l, l.length + m = n → ord X n m l = none → ∃ k, k < n ∧ W X n k k = true
  | 0, l, _, e => by cases e
  | m + 1, l, h, e => by
    simp only [ord] at e
    split at e
    · rename_i hk
      exact stuck (by omega) hk
    · exact ord_none m _ (by rw [List.length_append, List.length_singleton]; omega) e
theorem order_none {X : List Ed} {n : Nat} (h : order X n = none) : ∃ k, k < n ∧ W X n k k = true := ord_none n [] (by simp) h

theorem ord_step {X : List Ed} {n m k : Nat} {l : List Nat} (h : next X n l = some k) : ord X n (m + 1) l = ord X n m (l ++ [k]) := by simp [ord, h]
theorem ord_stuck {X : List Ed} {n m : Nat} {l : List Nat} (h : next X n l = none) : ord X n (m + 1) l = none := by simp [ord, h]
theorem mask_snoc {n k : Nat} (l : List Nat) (h : k < n) : mask (fun i => l.contains i) n ||| 2 ^ k = mask (fun i => (l ++ [k]).contains i) n := by
  rw [mask_one _ h]
  exact mask_congr fun i _ => by
    rw [Bool.eq_iff_iff]
    simp
/-- What Order answers: the nodes, and what is wrong. -/
def ordList (n : Int) (X : List Ed) : List Nat := if check n X = 0 then (order X n.toNat).getD [] else []
def ordCode (n : Int) (X : List Ed) : Int := if check n X = 0 then (if (order X n.toNat).isSome then 0 else 11) else check n X
theorem check_le (n : Int) (X : List Ed) : 0 ≤ check n X ∧ check n X ≤ 4 := by
  unfold check
  split
  · omega
  split
  · omega
  split <;> omega
theorem ordCode_loop {n : Int} {X : List Ed} (h : ordCode n X = 11) : check n X = 0 ∧ order X n.toNat = none ∧ ordList n X = [] := by
  have hc := check_le n X
  unfold ordCode at h
  split at h
  · rename_i h0
    cases ho : order X n.toNat with
    | none => exact ⟨h0, rfl, by unfold ordList; rw [if_pos h0, ho]; rfl⟩
    | some l => rw [ho] at h; cases h
  · omega
theorem ordCode_zero {n : Int} {X : List Ed} (h : ordCode n X = 0) : check n X = 0 ∧ order X n.toNat = some (ordList n X) := by
  unfold ordCode at h
  split at h
  · rename_i h0
    refine ⟨h0, ?_⟩
    unfold ordList
    rw [if_pos h0]
    cases ho : order X n.toNat with
    | none => rw [ho] at h; cases h
    | some l => rfl
  · exact absurd h (by assumption)
theorem ordList_bad {n : Int} {X : List Ed} (h : ordCode n X ≠ 0) : ordList n X = [] := by
  unfold ordList
  split
  · rename_i h0
    cases ho : order X n.toNat with
    | none => rfl
    | some l => exact absurd (by unfold ordCode; rw [if_pos h0, ho]; rfl) h
  · rfl
/-- Each node's place is laid, of the first i. -/
def Lay (l : List Nat) (i : Nat) (A : List Nat) : Prop := ∀ (j k : Nat), j < i → l[j]? = some k → A[k]? = some j
theorem Lay.next {l A : List Nat} {i k : Nat} (h : Lay l i A) (hn : l.Nodup) (hk : l[i]? = some k) (hA : k < A.length) : Lay l (i + 1) (A.set k i) := by
  intro j m hj hm
  rw [List.getElem?_set]
  by_cases e : k = m
  · subst e
    have := (List.getElem?_inj (List.getElem?_eq_some_iff.1 hk).1 hn).1 (hk.trans hm.symm)
    subst this
    simp [hA]
  · rw [if_neg e]
    rcases Nat.lt_or_ge j i with h1 | h1
    · exact h j m h1 hm
    · have : j = i := by omega
      subst this
      rw [hk] at hm
      cases hm
      exact absurd rfl e
/-- In an order each edge goes forward. -/
theorem forward {X : List Ed} {n : Nat} {l A : List Nat} (hX : ∀ i j, E X i j = true → i < n ∧ j < n) (h : Fine X n l) (hl : l.length = n) (hA : Lay l n A) {i j : Nat} (he : E X i j = true) : ∃ a b : Nat, A[i]? = some a ∧ A[j]? = some b ∧ a < b := by
  obtain ⟨hi, hj⟩ := hX i j he
  have hm := (all_in n l h.nd h.lt).2 hl j hj
  obtain ⟨b, hb, e⟩ := List.mem_iff_getElem.1 hm
  have hbj : l[b]? = some j := by rw [List.getElem?_eq_getElem hb, e]
  obtain ⟨a, hab, ha⟩ := h.pre b j hbj i hi he
  exact ⟨a, b, hA a i (by omega) ha, hA b j (by omega) hbj, hab⟩
theorem take_has {l : List Nat} {i k : Nat} (hn : l.Nodup) (hk : l[i]? = some k) : (l.take i).contains k = false := by
  rw [Bool.eq_false_iff]
  intro h
  rw [List.contains_iff_mem] at h
  obtain ⟨j, hj, e⟩ := List.mem_iff_getElem.1 h
  rw [List.length_take] at hj
  rw [List.getElem_take] at e
  have : l[j]? = some k := by rw [List.getElem?_eq_getElem (by omega), e]
  have := (List.getElem?_inj (List.getElem?_eq_some_iff.1 hk).1 hn).1 (hk.trans this.symm)
  omega
def wayCode (n : Int) (X : List Ed) (k : Int) : Int := if check n X = 0 then (if node n k then 0 else 1) else check n X
def wayList (n : Int) (X : List Ed) (k : Int) : List Nat := if check n X = 0 then (if node n k then (List.range n.toNat).filter (W X n.toNat k.toNat) else []) else []

theorem way_self {n : Nat} {X : List Ed} (h : check n X = 0) {k : Nat} (hk : k < n) : wayCode n X k = 0 ∧ wayList n X k = (List.range n).filter (W X n k) := by
  have hn : node (n : Int) (k : Int) = true := by simp [node]; omega
  unfold wayCode wayList
  rw [if_pos h, if_pos h, hn, if_pos rfl, if_pos rfl, Int.toNat_natCast, Int.toNat_natCast]
  exact ⟨rfl, rfl⟩
theorem way_has {X : List Ed} {n k j : Nat} (hj : j < n) : ((List.range n).filter (W X n k)).contains j = W X n k j := by
  rw [Bool.eq_iff_iff]
  simp [hj]

/-- The same, by who comes to whom. -/
def readyW (X : List Ed) (n : Nat) (l : List Nat) (k : Nat) : Bool := !l.contains k && (List.range n).all (fun i => l.contains i || !W X n i k)
theorem readyW_eq {X : List Ed} {n : Nat} {l : List Nat} (hX : ∀ i j, E X i j = true → i < n) (h : Fine X n l) (k : Nat) : readyW X n l k = ready X n l k := by
  have hp : ∀ i k, l.contains k = true → E X i k = true → l.contains i = true := fun i k hk he => by
    rw [List.contains_iff_mem] at hk ⊢
    obtain ⟨b, hb, e⟩ := List.mem_iff_getElem.1 hk
    obtain ⟨a, _, ha⟩ := h.pre b k (by rw [List.getElem?_eq_getElem hb, e]) i (hX i k he) he
    exact List.mem_of_getElem? ha
  rw [Bool.eq_iff_iff, ready_of]
  simp only [readyW, Bool.and_eq_true, Bool.not_eq_true', List.all_eq_true, List.mem_range, Bool.or_eq_true, ← Bool.not_eq_true, List.contains_iff_mem]
  constructor
  · rintro ⟨h1, h2⟩
    exact ⟨h1, fun i hi he => (h2 i hi).resolve_right (fun hn => hn (W_edge X i k he n))⟩
  · rintro ⟨h1, h2⟩
    refine ⟨h1, fun i hi => ?_⟩
    by_cases hw : W X n i k = true
    · left
      rcases W_last X n hX n i k (Nat.le_refl _) hw with he | ⟨j, hj, hw', he⟩
      · exact h2 i hi he
      · have := W_closed X (l.contains ·) hp n i j (List.contains_iff_mem.2 (h2 j hj he)) hw'
        exact List.contains_iff_mem.1 this
    · exact .inr hw
def nextW (X : List Ed) (n : Nat) (l : List Nat) : Option Nat := (List.range n).find? (readyW X n l)
theorem nextW_eq {X : List Ed} {n : Nat} {l : List Nat} (hX : ∀ i j, E X i j = true → i < n) (h : Fine X n l) : nextW X n l = next X n l := by
  unfold nextW next
  congr 1
  funext k
  exact readyW_eq hX h k

/-! Parts -/
def eqv (X : List Ed) (n a b : Nat) : Bool := decide (a = b) || (W X n a b && W X n b a)
theorem eqv_of {X : List Ed} {n a b : Nat} : eqv X n a b = true ↔ a = b ∨ (W X n a b = true ∧ W X n b a = true) := by simp [eqv]
theorem eqv_refl (X : List Ed) (n a : Nat) : eqv X n a a = true := by simp [eqv]
theorem eqv_symm {X : List Ed} {n a b : Nat} (h : eqv X n a b = true) : eqv X n b a = true := by
  rw [eqv_of] at h ⊢
  rcases h with h | ⟨h1, h2⟩
  · exact .inl h.symm
  · exact .inr ⟨h2, h1⟩
theorem eqv_trans {X : List Ed} {n a b c : Nat} (hb : b < n) (h : eqv X n a b = true) (h' : eqv X n b c = true) : eqv X n a c = true := by
  rw [eqv_of] at h h' ⊢
  rcases h with rfl | ⟨h1, h2⟩
  · exact h'
  · rcases h' with rfl | ⟨h3, h4⟩
    · exact .inr ⟨h1, h2⟩
    · exact .inr ⟨W_trans X n a b c hb h1 h3, W_trans X n c b a hb h4 h2⟩
def cls (X : List Ed) (n k : Nat) : List Nat := (List.range n).filter (eqv X n k)
/-- k is the least of its part. -/
def rep (X : List Ed) (n k : Nat) : Bool := (List.range k).all (fun j => !eqv X n j k)
def partsTo (X : List Ed) (n k : Nat) : List (List Nat) := ((List.range k).filter (rep X n)).map (cls X n)
def parts (X : List Ed) (n : Nat) : List (List Nat) := partsTo X n n
def partList (n : Int) (X : List Ed) : List (List Nat) := if check n X = 0 then parts X n.toNat else []
/-- What stands in a part already. -/
def toldTo (X : List Ed) (n k j : Nat) : Bool := (List.range k).any (fun i => rep X n i && eqv X n i j)
theorem rep_of {X : List Ed} {n k : Nat} : rep X n k = true ↔ ∀ j, j < k → eqv X n j k = false := by
  simp [rep]
theorem has_rep {X : List Ed} {n : Nat} : ∀ k, k < n → ∃ r, r ≤ k ∧ rep X n r = true ∧ eqv X n r k = true := by
  intro k
  induction k using Nat.strongRecOn with
  | ind k ih =>
    intro hk
    by_cases hr : rep X n k = true
    · exact ⟨k, Nat.le_refl _, hr, eqv_refl X n k⟩
    · have : ∃ j, j < k ∧ eqv X n j k = true := by
        apply Classical.byContradiction
        intro hc
        apply hr
        rw [rep_of]
        intro j hj
        cases e : eqv X n j k with
        | false => rfl
        | true => exact absurd ⟨j, hj, e⟩ hc
      obtain ⟨j, hj, he⟩ := this
      obtain ⟨r, h1, h2, h3⟩ := ih j hj (by omega)
      exact ⟨r, by omega, h2, eqv_trans (by omega) h3 he⟩
theorem told_rep {X : List Ed} {n k : Nat} (hk : k < n) : toldTo X n k k = !rep X n k := by
  rw [Bool.eq_iff_iff]
  constructor
  · intro h
    simp only [toldTo, List.any_eq_true, List.mem_range, Bool.and_eq_true] at h
    obtain ⟨i, hi, h1, h2⟩ := h
    cases e : rep X n k with
    | false => rfl
    | true => rw [rep_of.1 e i hi] at h2; cases h2
  · intro h
    obtain ⟨r, h1, h2, h3⟩ := has_rep k hk
    have : r ≠ k := fun e => by subst e; rw [h2] at h; cases h
    simp only [toldTo, List.any_eq_true, List.mem_range, Bool.and_eq_true]
    exact ⟨r, by omega, h2, h3⟩
theorem partsTo_succ (X : List Ed) (n k : Nat) : partsTo X n (k + 1) = partsTo X n k ++ if rep X n k then [cls X n k] else [] := by
  unfold partsTo
  rw [List.range_succ, List.filter_append, List.map_append]
  cases h : rep X n k <;> simp [h]
theorem partsTo_len (X : List Ed) (n k : Nat) : (partsTo X n k).length ≤ k := by
  unfold partsTo
  rw [List.length_map]
  have := List.length_filter_le (rep X n) (List.range k)
  simpa using this
theorem toldTo_succ (X : List Ed) (n k j : Nat) : toldTo X n (k + 1) j = (toldTo X n k j || (rep X n k && eqv X n k j)) := by
  unfold toldTo
  rw [List.range_succ, List.any_append]
  simp
theorem cls_mem {X : List Ed} {n k j : Nat} : j ∈ cls X n k ↔ j < n ∧ eqv X n k j = true := by simp [cls]
theorem parts_at {X : List Ed} {n i : Nat} {l : List Nat} (h : (parts X n)[i]? = some l) : ∃ r, r < n ∧ rep X n r = true ∧ l = cls X n r ∧ ((List.range n).filter (rep X n))[i]? = some r := by
  unfold parts partsTo at h
  rw [List.getElem?_map] at h
  cases e : ((List.range n).filter (rep X n))[i]? with
  | none => rw [e] at h; cases h
  | some r =>
    rw [e] at h
    injection h with h
    have := List.mem_filter.1 (List.mem_of_getElem? e)
    exact ⟨r, List.mem_range.1 this.1, this.2, h.symm, rfl⟩
/-- A node stands in one part. -/
theorem parts_one {X : List Ed} {n i i' : Nat} {l l' : List Nat} {k : Nat} (h : (parts X n)[i]? = some l) (h' : (parts X n)[i']? = some l') (hk : k ∈ l) (hk' : k ∈ l') : i = i' := by
  obtain ⟨r, hr, h1, rfl, h2⟩ := parts_at h
  obtain ⟨r', hr', h1', rfl, h2'⟩ := parts_at h'
  obtain ⟨hkn, he⟩ := cls_mem.1 hk
  obtain ⟨_, he'⟩ := cls_mem.1 hk'
  have hrr : eqv X n r r' = true := eqv_trans hkn he (eqv_symm he')
  have : r = r' := by
    rcases Nat.lt_trichotomy r r' with hl | hl | hl
    · rw [rep_of.1 h1' r hl] at hrr; cases hrr
    · exact hl
    · have := eqv_symm hrr
      rw [rep_of.1 h1 r' hl] at this; cases this
  subst this
  exact (List.getElem?_inj (List.getElem?_eq_some_iff.1 h2).1 (List.nodup_range.filter _)).1 (h2.trans h2'.symm)
theorem parts_all {X : List Ed} {n k : Nat} (hk : k < n) : ∃ (i : Nat) (l : List Nat), (parts X n)[i]? = some l ∧ k ∈ l := by
  obtain ⟨r, h1, h2, h3⟩ := has_rep (X := X) k hk
  have hm : cls X n r ∈ parts X n := List.mem_map.2 ⟨r, List.mem_filter.2 ⟨List.mem_range.2 (by omega), h2⟩, rfl⟩
  obtain ⟨i, hi, e⟩ := List.mem_iff_getElem.1 hm
  exact ⟨i, cls X n r, by rw [List.getElem?_eq_getElem hi, e], cls_mem.2 ⟨hk, h3⟩⟩
/-- They are of one part just if they come to each other. -/
theorem parts_eqv {X : List Ed} {n i j a b : Nat} {l m : List Nat} (hi : (parts X n)[i]? = some l) (hj : (parts X n)[j]? = some m) (ha : a ∈ l) (hb : b ∈ m) : eqv X n a b = decide (i = j) := by
  rw [Bool.eq_iff_iff, decide_eq_true_eq]
  obtain ⟨r, hrn, _, rfl, _⟩ := parts_at hi
  obtain ⟨hbn, _⟩ := (show b < n ∧ True by
    obtain ⟨r', _, _, rfl, _⟩ := parts_at hj
    exact ⟨(cls_mem.1 hb).1, trivial⟩)
  obtain ⟨han, hra⟩ := cls_mem.1 ha
  constructor
  · intro h
    exact parts_one hi hj (cls_mem.2 ⟨hbn, eqv_trans han hra h⟩) hb
  · rintro rfl
    rw [hi] at hj
    injection hj with hj
    subst hj
    have hrb := (cls_mem.1 hb).2
    exact eqv_trans hrn (eqv_symm hra) hrb
theorem parts_nodup (X : List Ed) (n : Nat) : (parts X n).flatten.Nodup := by
  unfold List.Nodup
  rw [List.pairwise_flatten]
  refine ⟨fun l hl => ?_, ?_⟩
  · obtain ⟨r, _, rfl⟩ := List.mem_map.1 hl
    exact List.nodup_range.filter _
  · rw [List.pairwise_iff_getElem]
    intro i j hi hj hij x hx y hy e
    subst e
    have := parts_one (List.getElem?_eq_getElem hi) (List.getElem?_eq_getElem hj) hx hy
    omega
theorem parts_count (X : List Ed) (n : Nat) : (parts X n).flatten.length = n := by
  refine Nat.le_antisymm (all_in n _ (parts_nodup X n) (fun k hk => ?_)).1 (all_len n _ (fun k hk => ?_))
  · obtain ⟨l, hl, hk⟩ := List.mem_flatten.1 hk
    obtain ⟨r, _, rfl⟩ := List.mem_map.1 hl
    exact (cls_mem.1 hk).1
  · obtain ⟨i, l, h1, h2⟩ := parts_all (X := X) hk
    exact List.mem_flatten.2 ⟨l, List.mem_of_getElem? h1, h2⟩
theorem parts_length (X : List Ed) (n : Nat) : (parts X n).length ≤ n := by
  unfold parts partsTo
  rw [List.length_map]
  have := List.length_filter_le (rep X n) (List.range n)
  simpa using this
/-- Of the least of a part's nodes. -/
theorem cls_head {X : List Ed} {n k : Nat} (hk : k < n) : ∃ r l, cls X n k = r :: l ∧ (decide (r = k) = rep X n k) := by
  cases e : cls X n k with
  | nil =>
    have : k ∈ cls X n k := cls_mem.2 ⟨hk, eqv_refl X n k⟩
    rw [e] at this; cases this
  | cons r l =>
    refine ⟨r, l, rfl, ?_⟩
    have hs : (cls X n k).Pairwise (· < ·) := List.pairwise_lt_range.filter _
    rw [e] at hs
    have hmin := (List.pairwise_cons.1 hs).1
    have hr : r ∈ cls X n k := by rw [e]; exact List.mem_cons_self
    have hkm : k ∈ r :: l := by rw [← e]; exact cls_mem.2 ⟨hk, eqv_refl X n k⟩
    rw [Bool.eq_iff_iff, decide_eq_true_eq, rep_of]
    constructor
    · rintro rfl
      intro j hj
      cases he : eqv X n j r with
      | false => rfl
      | true =>
        have : j ∈ cls X n r := cls_mem.2 ⟨by omega, eqv_symm he⟩
        rw [e] at this
        rcases List.mem_cons.1 this with h | h
        · omega
        · have := hmin j h; omega
    · intro h
      rcases List.mem_cons.1 hkm with h1 | h1
      · exact h1.symm
      · have h2 := h r (hmin k h1)
        rw [eqv_symm (cls_mem.1 hr).2] at h2
        cases h2

/-- Each node's part is laid: of the first i parts, and of the next one the first j nodes. -/
def Lay2 (L : List (List Nat)) (i j : Nat) (A : List Nat) : Prop := ∀ (i' j' : Nat) (l : List Nat) (k : Nat), L[i']? = some l → l[j']? = some k → (i' < i ∨ (i' = i ∧ j' < j)) → A[k]? = some i'
theorem Lay2.next {L : List (List Nat)} {i j k : Nat} {l A : List Nat} (h : Lay2 L i j A) (hone : ∀ (i i' : Nat) (l l' : List Nat) (k : Nat), L[i]? = some l → L[i']? = some l' → k ∈ l → k ∈ l' → i = i') (hi : L[i]? = some l) (hj : l[j]? = some k) (hA : k < A.length) : Lay2 L i (j + 1) (A.set k i) := by
  intro i' j' l' k' h1 h2 h3
  rw [List.getElem?_set]
  by_cases e : k = k'
  · subst e
    have := hone i i' l l' k hi h1 (List.mem_of_getElem? hj) (List.mem_of_getElem? h2)
    subst this
    simp [hA]
  · rw [if_neg e]
    refine h i' j' l' k' h1 h2 ?_
    rcases h3 with h3 | ⟨h3, h4⟩
    · exact .inl h3
    · subst h3
      rw [hi] at h1
      cases h1
      rcases Nat.lt_or_ge j' j with h5 | h5
      · exact .inr ⟨rfl, h5⟩
      · have : j' = j := by omega
        subst this
        rw [hj] at h2
        cases h2
        exact absurd rfl e
theorem Lay2.row {L : List (List Nat)} {i : Nat} {l A : List Nat} (h : Lay2 L i l.length A) (hi : L[i]? = some l) : Lay2 L (i + 1) 0 A := by
  intro i' j' l' k' h1 h2 h3
  refine h i' j' l' k' h1 h2 ?_
  rcases Nat.lt_or_ge i' i with h4 | h4
  · exact .inl h4
  · have : i' = i := by omega
    subst this
    rw [hi] at h1
    cases h1
    exact .inr ⟨rfl, (List.getElem?_eq_some_iff.1 h2).1⟩
theorem flat_next {L : List (List Nat)} {i : Nat} {l : List Nat} (h : L[i]? = some l) : (L.take (i + 1)).flatten.length = (L.take i).flatten.length + l.length := by
  obtain ⟨h1, h2⟩ := List.getElem?_eq_some_iff.1 h
  rw [List.take_succ_eq_append_getElem h1, List.flatten_append, List.length_append, h2]
  simp
theorem flat_le {L : List (List Nat)} (i : Nat) : (L.take i).flatten.length ≤ L.flatten.length := by
  have := congrArg (fun M : List (List Nat) => M.flatten.length) (List.take_append_drop i L)
  simp only [List.flatten_append, List.length_append] at this
  omega
theorem part_mem {X : List Ed} {n i : Nat} {l : List Nat} (h : (parts X n)[i]? = some l) : ∀ k ∈ l, k < n := by
  obtain ⟨r, _, _, rfl, _⟩ := parts_at h
  exact fun k hk => (cls_mem.1 hk).1
/-- What is laid tells who comes to whom and back. -/
theorem laid_eqv {X : List Ed} {n a b : Nat} {A : List Nat} (h : Lay2 (parts X n) (parts X n).length 0 A) (ha : a < n) (hb : b < n) : ∃ i j : Nat, A[a]? = some i ∧ A[b]? = some j ∧ eqv X n a b = decide (i = j) := by
  obtain ⟨i, l, h1, h2⟩ := parts_all (X := X) ha
  obtain ⟨j, m, h3, h4⟩ := parts_all (X := X) hb
  obtain ⟨p, hp, e⟩ := List.mem_iff_getElem.1 h2
  obtain ⟨q, hq, e'⟩ := List.mem_iff_getElem.1 h4
  exact ⟨i, j, h i p l a h1 (by rw [List.getElem?_eq_getElem hp, e]) (.inl (List.getElem?_eq_some_iff.1 h1).1), h j q m b h3 (by rw [List.getElem?_eq_getElem hq, e']) (.inl (List.getElem?_eq_some_iff.1 h3).1), parts_eqv h1 h3 h2 h4⟩

/-- The square behind round k, as far as place (i, j). -/
def cloF (X : List Ed) (k i j a c : Nat) : Bool := if a < i ∨ (a = i ∧ c < j) then W X (k + 1) a c else W X k a c
theorem cloF_start (X : List Ed) (k a c : Nat) : cloF X k 0 0 a c = W X k a c := by unfold cloF; rw [if_neg (by omega)]
theorem cloF_row {X : List Ed} {n k i a c : Nat} (hc : c < n) : cloF X k i n a c = cloF X k (i + 1) 0 a c := by
  unfold cloF
  by_cases h : a < i ∨ (a = i ∧ c < n)
  · rw [if_pos h, if_pos (by omega)]
  · rw [if_neg h, if_neg (by omega)]
theorem cloF_end {X : List Ed} {n k a c : Nat} (ha : a < n) : cloF X k n 0 a c = W X (k + 1) a c := by unfold cloF; rw [if_pos (by omega)]
theorem cloF_next (X : List Ed) (k i j a c : Nat) : (if a = i ∧ c = j then W X (k + 1) i j else cloF X k i j a c) = cloF X k i (j + 1) a c := by
  unfold cloF
  by_cases h : a = i ∧ c = j
  · rw [if_pos h, if_pos (by omega), h.1, h.2]
  · rw [if_neg h]
    by_cases h2 : a < i ∨ (a = i ∧ c < j)
    · rw [if_pos h2, if_pos (by omega)]
    · rw [if_neg h2, if_neg (by omega)]
theorem cloF_self (X : List Ed) (k i j : Nat) : cloF X k i j i j = W X k i j := by unfold cloF; rw [if_neg (by omega)]
theorem cloF_left (X : List Ed) (k i j : Nat) : cloF X k i j i k = W X k i k := by
  unfold cloF
  split
  · exact W_col X k i
  · rfl
theorem cloF_right (X : List Ed) (k i j : Nat) : cloF X k i j k j = W X k k j := by
  unfold cloF
  split
  · exact W_row X k j
  · rfl

/-- As far as the first i nodes tell: can k stand next? -/
def rdTo (X : List Ed) (n : Nat) (l : List Nat) (k i : Nat) : Bool := !l.contains k && (List.range i).all (fun i => l.contains i || !W X n i k)
theorem rdTo_none (X : List Ed) (n : Nat) (l : List Nat) (k : Nat) : rdTo X n l k 0 = !l.contains k := by simp [rdTo]
theorem rdTo_next (X : List Ed) (n : Nat) (l : List Nat) (k i : Nat) : rdTo X n l k (i + 1) = (rdTo X n l k i && (l.contains i || !W X n i k)) := by
  unfold rdTo
  rw [List.range_succ, List.all_append, Bool.and_assoc]
  simp
theorem rdTo_all (X : List Ed) (n : Nat) (l : List Nat) (k : Nat) : rdTo X n l k n = readyW X n l k := rfl
theorem nextW_is {X : List Ed} {n k : Nat} {l : List Nat} (h : ∀ j, j < k → readyW X n l j = false) (hk : k < n) (hr : readyW X n l k = true) : nextW X n l = some k := by
  unfold nextW
  rw [List.find?_range_eq_some]
  exact ⟨hr, List.mem_range.2 hk, fun j hj => by rw [h j hj]; rfl⟩
theorem nextW_no {X : List Ed} {n : Nat} {l : List Nat} (h : ∀ j, j < n → readyW X n l j = false) : nextW X n l = none := by
  unfold nextW
  rw [List.find?_range_eq_none]
  exact fun j hj => by rw [h j hj]; rfl
theorem done_set {n k : Nat} (l : List Nat) : ((List.range n).map (fun i => l.contains i)).set k true = (List.range n).map (fun i => (l ++ [k]).contains i) := by
  apply List.ext_getElem?
  intro i
  rw [List.getElem?_set, List.length_map, List.length_range]
  by_cases hi : i < n
  · rw [List.getElem?_map, List.getElem?_map, List.getElem?_range hi]
    by_cases hj : k = i
    · subst hj; simp [hi]
    · have : ¬ i = k := fun e => hj e.symm
      simp [hj, this]
  · rw [List.getElem?_eq_none (by simp; omega), List.getElem?_eq_none (by simp; omega)]
    split
    · split
      · omega
      · rfl
    · rfl

theorem filter_next (p : Nat → Bool) (i : Nat) : (List.range (i + 1)).filter p = (List.range i).filter p ++ if p i then [i] else [] := by
  rw [List.range_succ, List.filter_append]
  cases h : p i <;> simp [h]
theorem filter_len (p : Nat → Bool) (i : Nat) : ((List.range i).filter p).length ≤ i := by
  have := List.length_filter_le p (List.range i)
  simpa using this
end Gr
end Go.Proofs.Ytbgcldckgiiedaj.PGraph
