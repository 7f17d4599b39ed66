/-
  Who waits for whom, for ever, in plain words (no program in it): who is over behind so many rounds; who never is: who comes to a loop (HOLT); the greatest node that comes to itself, by parts and by ways; what is left without it; those that are taken, one behind another, falling; without them no loop is left. And the two rules: whoever waits is older (or younger) than whom they wait for. No conditions.
-/
import Derived.Test.YtbgcldckgiiedacDoorGraphNum
namespace Go.Proofs.YtbgcldckgiiedacDoor.PWait
open PGraph
namespace Wa

/-- All edges go from node to node. -/
def In (X : List Gr.Ed) (n : Nat) : Prop := ∀ e ∈ X, 0 ≤ e.f ∧ e.f < (n : Int) ∧ 0 ≤ e.t ∧ e.t < (n : Int)
theorem In.E {X : List Gr.Ed} {n : Nat} (h : In X n) {i j : Nat} (he : Gr.E X i j = true) : i < n ∧ j < n := by
  have := h (Gr.ed i j) (by simpa [Gr.E] using he)
  simp [Gr.ed] at this
  omega
theorem In.ed {X : List Gr.Ed} {n : Nat} (h : In X n) {e : Gr.Ed} (he : e ∈ X) : ∃ i j : Nat, e = Gr.ed i j ∧ i < n ∧ j < n := by
  obtain ⟨h1, h2, h3, h4⟩ := h e he
  refine ⟨e.f.toNat, e.t.toNat, ?_, by omega, by omega⟩
  obtain ⟨f, t⟩ := e
  simp only at h1 h3
  simp [Gr.ed, Int.toNat_of_nonneg h1, Int.toNat_of_nonneg h3]
theorem In.ways {X : List Gr.Ed} {n : Nat} (h : In X n) : ∀ b i j, Gr.W X b i j = true → i < n ∧ j < n
  | 0, i, j, hw => h.E hw
  | b + 1, i, j, hw => by
    simp only [Gr.W, Bool.or_eq_true, Bool.and_eq_true] at hw
    rcases hw with hw | ⟨h1, h2⟩
    · exact h.ways b i j hw
    · exact ⟨(h.ways b i b h1).1, (h.ways b b j h2).2⟩

/-- A way has a first edge. -/
theorem W_first (X : List Gr.Ed) : ∀ b i j, Gr.W X b i j = true → Gr.E X i j = true ∨ ∃ k, Gr.E X i k = true ∧ Gr.W X b k j = true
  | 0, i, j, h => .inl h
  | b + 1, i, j, h => by
    simp only [Gr.W, Bool.or_eq_true, Bool.and_eq_true] at h
    rcases h with h | ⟨h1, h2⟩
    · rcases W_first X b i j h with h | ⟨k, h1, h2⟩
      · exact .inl h
      · exact .inr ⟨k, h1, Gr.W_mono X b k j h2⟩
    · rcases W_first X b i b h1 with h | ⟨k, h3, h4⟩
      · exact .inr ⟨b, h, Gr.W_mono X b b j h2⟩
      · exact .inr ⟨k, h3, by simp [Gr.W, h4, h2]⟩

/-! ### Who is over -/
/-- Behind r rounds. -/
def over (X : List Gr.Ed) : Nat → Nat → Bool
  | 0, _ => false
  | r + 1, k => X.all (fun e => !decide (e.f = (k : Int)) || over X r e.t.toNat)
theorem over_false {X : List Gr.Ed} {r k j : Nat} (hj : Gr.E X k j = true) (ho : over X r j = false) : over X (r + 1) k = false := by
  rw [Bool.eq_false_iff]
  intro h
  have := List.all_eq_true.1 h (Gr.ed k j) (by simpa [Gr.E] using hj)
  simp [Gr.ed, ho] at this
theorem over_true {X : List Gr.Ed} {n r k : Nat} (hX : In X n) (h : ∀ j, Gr.E X k j = true → over X r j = true) : over X (r + 1) k = true := by
  rw [over, List.all_eq_true]
  intro e he
  obtain ⟨i, j, rfl, -, -⟩ := hX.ed he
  by_cases hk : i = k
  · subst hk
    have := h j (by simpa [Gr.E] using he)
    simp [Gr.ed, this]
  · have : ¬ ((i : Int) = (k : Int)) := by omega
    simp [Gr.ed, this]
/-- Of the next round, as far as the first m edges tell. -/
def nx (X : List Gr.Ed) (r m k : Nat) : Bool := (X.take m).all (fun e => !decide (e.f = (k : Int)) || over X r e.t.toNat)
theorem nx_none (X : List Gr.Ed) (r k : Nat) : nx X r 0 k = true := by simp [nx]
theorem nx_next {X : List Gr.Ed} {m i j : Nat} (hx : X[m]? = some (Gr.ed i j)) (r k : Nat) : nx X r (m + 1) k = (nx X r m k && (!decide (k = i) || over X r j)) := by
  obtain ⟨h1, h2⟩ := List.getElem?_eq_some_iff.1 hx
  have e : decide ((i : Int) = (k : Int)) = decide (k = i) := by
    rw [Bool.eq_iff_iff]; simp; omega
  unfold nx
  rw [List.take_succ_eq_append_getElem h1, h2, List.all_append]
  simp only [List.all_cons, List.all_nil, Bool.and_true, Gr.ed, Int.toNat_natCast]
  rw [e]
theorem nx_all (X : List Gr.Ed) (r k : Nat) : nx X r X.length k = over X (r + 1) k := by unfold nx; rw [List.take_length]; rfl
def bow (F : Nat → Bool) (n : Nat) : List Bool := (List.range n).map F
theorem bow_len (F : Nat → Bool) (n : Nat) : (bow F n).length = n := by simp [bow]
theorem bow_at (F : Nat → Bool) {n i : Nat} (h : i < n) : (bow F n)[i]? = some (F i) := by simp [bow, h]
theorem bow_congr {F G : Nat → Bool} {n : Nat} (h : ∀ i, i < n → F i = G i) : bow F n = bow G n := List.map_congr_left fun i hi => h i (List.mem_range.1 hi)
theorem bow_const (b : Bool) (n : Nat) : bow (fun _ => b) n = List.replicate n b := by
  unfold bow; rw [List.map_const', List.length_range]
theorem bow_set (F : Nat → Bool) (n i : Nat) (v : Bool) : (bow F n).set i v = bow (fun t => if t = i then v else F t) n := by
  apply List.ext_getElem?
  intro j
  rw [List.getElem?_set, bow_len]
  by_cases hj : j < n
  · rw [bow_at _ hj, bow_at _ hj]
    by_cases e : i = j
    · subst e; simp [hj]
    · have : ¬ j = i := fun h => e h.symm
      simp [e, this]
  · rw [List.getElem?_eq_none (by rw [bow_len]; omega), List.getElem?_eq_none (by rw [bow_len]; omega)]
    split
    · split
      · omega
      · rfl
    · rfl
theorem bow_true (n k : Nat) : (bow (fun i => decide (i < k)) n).set k true = bow (fun i => decide (i < k + 1)) n := by
  rw [bow_set]
  refine bow_congr fun i _ => ?_
  by_cases e : i = k
  · rw [if_pos e]; simp; omega
  · rw [if_neg e, Bool.eq_iff_iff]; simp; omega
theorem bow_hit {X : List Gr.Ed} {n m i j r : Nat} (hx : X[m]? = some (Gr.ed i j)) (ho : over X r j = false) : (bow (nx X r m) n).set i false = bow (nx X r (m + 1)) n := by
  rw [bow_set]
  refine bow_congr fun k _ => ?_
  rw [nx_next hx, ho]
  by_cases e : k = i
  · simp [e]
  · simp [e]
theorem bow_miss {X : List Gr.Ed} {n m i j r : Nat} (hx : X[m]? = some (Gr.ed i j)) (ho : over X r j = true) : bow (nx X r m) n = bow (nx X r (m + 1)) n := bow_congr fun k _ => by
  rw [nx_next hx, ho]; simp
/-- Who comes to a loop. -/
def lost (X : List Gr.Ed) (n k : Nat) : Bool := Gr.W X n k k || (List.range n).any (fun i => Gr.W X n k i && Gr.W X n i i)
theorem lost_of {X : List Gr.Ed} {n k : Nat} : lost X n k = true ↔ Gr.W X n k k = true ∨ ∃ i, i < n ∧ Gr.W X n k i = true ∧ Gr.W X n i i = true := by
  simp [lost]
theorem lost_on {X : List Gr.Ed} {n k : Nat} (hX : In X n) (h : lost X n k = true) : ∃ j, Gr.E X k j = true ∧ lost X n j = true := by
  rw [lost_of] at h
  rcases h with h | ⟨i, hi, h1, h2⟩
  · rcases W_first X n k k h with he | ⟨j, he, hw⟩
    · exact ⟨k, he, lost_of.2 (.inl h)⟩
    · exact ⟨j, he, lost_of.2 (.inr ⟨k, (hX.E he).1, hw, h⟩)⟩
  · rcases W_first X n k i h1 with he | ⟨j, he, hw⟩
    · exact ⟨i, he, lost_of.2 (.inl h2)⟩
    · exact ⟨j, he, lost_of.2 (.inr ⟨i, hi, hw, h2⟩)⟩
theorem lost_back {X : List Gr.Ed} {n k j : Nat} (hX : In X n) (he : Gr.E X k j = true) (h : lost X n j = true) : lost X n k = true := by
  have hj := (hX.E he).2
  have hw := Gr.W_edge X k j he n
  rw [lost_of] at h ⊢
  rcases h with h | ⟨i, hi, h1, h2⟩
  · exact .inr ⟨j, hj, hw, h⟩
  · exact .inr ⟨i, hi, Gr.W_trans X n k j i hj hw h1, h2⟩
theorem over_lost {X : List Gr.Ed} {n : Nat} (hX : In X n) : ∀ r k, lost X n k = true → over X r k = false
  | 0, _, _ => rfl
  | r + 1, k, h => by
    obtain ⟨j, he, hj⟩ := lost_on hX h
    exact over_false he (over_lost hX r j hj)

/-- How many there are. -/
def cnt (p : Nat → Bool) : Nat → Nat
  | 0 => 0
  | n + 1 => cnt p n + if p n then 1 else 0
theorem cnt_le {p q : Nat → Bool} : ∀ n, (∀ i, i < n → p i = true → q i = true) → cnt p n ≤ cnt q n
  | 0, _ => Nat.le_refl _
  | n + 1, h => by
    have h1 := cnt_le n (fun i hi => h i (by omega))
    have h2 := h n (by omega)
    simp only [cnt]
    cases hp : p n with
    | false => simp; omega
    | true => rw [h2 hp]; simp; omega
theorem cnt_lt {p q : Nat → Bool} : ∀ n, (∀ i, i < n → p i = true → q i = true) → (∃ i, i < n ∧ q i = true ∧ p i = false) → cnt p n < cnt q n
  | 0, _, h => by obtain ⟨i, hi, _⟩ := h; omega
  | n + 1, h, ⟨i, hi, hq, hp⟩ => by
    have h2 := h n (by omega)
    simp only [cnt]
    by_cases e : i = n
    · subst e
      have h1 := cnt_le i (fun j hj => h j (by omega))
      rw [hq, hp]
      simp
      omega
    · have h1 := cnt_lt n (fun j hj => h j (by omega)) ⟨i, by omega, hq, hp⟩
      cases hp : p n with
      | false => simp; omega
      | true => rw [h2 hp]; simp; omega
theorem cnt_all : ∀ n, cnt (fun _ => true) n = n
  | 0 => rfl
  | n + 1 => by simp [cnt, cnt_all n]
theorem over_free {X : List Gr.Ed} {n : Nat} (hX : In X n) : ∀ r k, lost X n k = false → cnt (Gr.W X n k) n < r → over X r k = true
  | 0, _, _, h => absurd h (Nat.not_lt_zero _)
  | r + 1, k, hl, hc => by
    refine over_true hX fun j he => ?_
    obtain ⟨hk, hj⟩ := hX.E he
    have hlj : lost X n j = false := by
      rw [Bool.eq_false_iff]; intro h
      rw [lost_back hX he h] at hl; cases hl
    refine over_free hX r j hlj ?_
    have hw := Gr.W_edge X k j he n
    have : cnt (Gr.W X n j) n < cnt (Gr.W X n k) n := cnt_lt n (fun i _ h => Gr.W_trans X n k j i hj hw h) ⟨j, hj, hw, by
      rw [Bool.eq_false_iff]; intro h
      have : lost X n j = true := lost_of.2 (.inl h)
      rw [this] at hlj; cases hlj⟩
    omega
/-- HOLT: behind as many rounds as there are nodes all are over but those that come to a loop. -/
theorem over_all {X : List Gr.Ed} {n k : Nat} (hX : In X n) (hk : k < n) : over X n k = !lost X n k := by
  cases h : lost X n k with
  | true => rw [over_lost hX n k h]; rfl
  | false =>
    rw [over_free hX n k h]; · rfl
    have := cnt_lt (p := Gr.W X n k) (q := fun _ => true) n (fun _ _ _ => rfl) ⟨k, hk, rfl, by
      rw [Bool.eq_false_iff]; intro hw
      have : lost X n k = true := lost_of.2 (.inl hw)
      rw [this] at h; cases h⟩
    rw [cnt_all] at this
    exact this
def dead (n : Int) (X : List Gr.Ed) : List Nat := if Gr.check n X = 0 then (List.range n.toNat).filter (lost X n.toNat) else []
theorem in_of {n : Nat} {X : List Gr.Ed} (h : Gr.check n X = 0) : In X n := fun e he => by
  obtain ⟨_, _, _, h4⟩ := Gr.check_ok h
  have := h4 e he
  exact this
theorem check_in {n : Nat} {X : List Gr.Ed} (hn : n ≤ 60) (hl : X.length ≤ 2000) (h : In X n) : Gr.check n X = 0 := by
  refine Gr.check_good (by omega) (by omega) fun e he => ?_
  have := h e he
  simp [Gr.okE, Gr.node]
  omega

/-! ### The greatest that comes to itself -/
def worstTo (X : List Gr.Ed) (n : Nat) : Nat → Int
  | 0 => -1
  | k + 1 => if Gr.W X n k k then (k : Int) else worstTo X n k
theorem worstTo_hit {X : List Gr.Ed} {n k : Nat} (h : Gr.W X n k k = true) : worstTo X n (k + 1) = (k : Int) := by simp [worstTo, h]
theorem worstTo_miss {X : List Gr.Ed} {n k : Nat} (h : Gr.W X n k k = false) : worstTo X n (k + 1) = worstTo X n k := by simp [worstTo, h]
def worst (X : List Gr.Ed) (n : Nat) : Int := worstTo X n n
/-- g is the greatest of those. -/
def Top (p : Nat → Prop) (g : Int) : Prop := (g = -1 ∧ ∀ k, ¬ p k) ∨ ∃ k : Nat, g = (k : Int) ∧ p k ∧ ∀ j, p j → j ≤ k
theorem Top.one {p : Nat → Prop} {g h : Int} (hg : Top p g) (hh : Top p h) : g = h := by
  rcases hg with ⟨rfl, h1⟩ | ⟨k, rfl, h1, h2⟩ <;> rcases hh with ⟨rfl, h3⟩ | ⟨j, rfl, h3, h4⟩
  · rfl
  · exact absurd h3 (h1 j)
  · exact absurd h1 (h3 k)
  · have := h2 j h3; have := h4 k h1; omega
theorem worstTo_top (X : List Gr.Ed) (n : Nat) : ∀ m, Top (fun k => k < m ∧ Gr.W X n k k = true) (worstTo X n m)
  | 0 => .inl ⟨rfl, fun k h => absurd h.1 (Nat.not_lt_zero _)⟩
  | m + 1 => by
    cases h : Gr.W X n m m with
    | true =>
      refine .inr ⟨m, by simp [worstTo, h], ⟨by omega, h⟩, fun j hj => by have := hj.1; omega⟩
    | false =>
      have e : worstTo X n (m + 1) = worstTo X n m := by simp [worstTo, h]
      rw [e]
      rcases worstTo_top X n m with ⟨h1, h2⟩ | ⟨k, h1, h2, h3⟩
      · refine .inl ⟨h1, fun k hk => ?_⟩
        by_cases e : k = m
        · subst e; rw [h] at hk; cases hk.2
        · exact h2 k ⟨by omega, hk.2⟩
      · refine .inr ⟨k, h1, ⟨by omega, h2.2⟩, fun j hj => ?_⟩
        by_cases e : j = m
        · subst e; rw [h] at hj; cases hj.2
        · exact h3 j ⟨by omega, hj.2⟩
theorem worst_top (X : List Gr.Ed) (n : Nat) : Top (fun k => k < n ∧ Gr.W X n k k = true) (worst X n) := worstTo_top X n n
theorem worst_none {X : List Gr.Ed} {n : Nat} (h : worst X n = -1) : ∀ k, k < n → Gr.W X n k k = false := by
  rcases worst_top X n with ⟨_, h2⟩ | ⟨k, h1, _⟩
  · intro k hk
    rw [Bool.eq_false_iff]; intro hw
    exact h2 k ⟨hk, hw⟩
  · omega
theorem worst_some {X : List Gr.Ed} {n : Nat} (h : worst X n ≠ -1) : ∃ k : Nat, worst X n = (k : Int) ∧ k < n ∧ Gr.W X n k k = true := by
  rcases worst_top X n with ⟨h1, _⟩ | ⟨k, h1, h2, _⟩
  · exact absurd h1 h
  · exact ⟨k, h1, h2⟩

/-! By parts -/
/-- A part with a loop. -/
def loopP (X : List Gr.Ed) (l : List Nat) : Bool := decide (1 < l.length) || Gr.E X (l.headD 0) (l.headD 0)
def maxN (l : List Nat) : Nat := l.foldl max 0
theorem maxN_snoc (l : List Nat) (x : Nat) : maxN (l ++ [x]) = max (maxN l) x := by simp [maxN]
theorem foldl_max_ge : ∀ (l : List Nat) (a : Nat), a ≤ l.foldl max a ∧ (∀ x ∈ l, x ≤ l.foldl max a) ∧ (l.foldl max a = a ∨ l.foldl max a ∈ l)
  | [], a => ⟨Nat.le_refl _, by simp, .inl rfl⟩
  | x :: l, a => by
    obtain ⟨h1, h2, h3⟩ := foldl_max_ge l (max a x)
    simp only [List.foldl_cons]
    refine ⟨by omega, fun y hy => ?_, ?_⟩
    · rcases List.mem_cons.1 hy with rfl | hy
      · omega
      · exact h2 y hy
    · rcases h3 with h3 | h3
      · rw [h3]
        rcases Nat.le_total a x with h | h
        · right; rw [Nat.max_eq_right h]; exact List.mem_cons_self
        · left; exact Nat.max_eq_left h
      · right; exact List.mem_cons_of_mem _ h3
theorem maxN_ge {l : List Nat} {x : Nat} (h : x ∈ l) : x ≤ maxN l := (foldl_max_ge l 0).2.1 x h
theorem maxN_mem {l : List Nat} (h : l ≠ []) : maxN l ∈ l := by
  rcases (foldl_max_ge l 0).2.2 with h1 | h1
  · cases l with
    | nil => exact absurd rfl h
    | cons y l =>
      have h2 : y ≤ maxN (y :: l) := maxN_ge List.mem_cons_self
      have h1 : maxN (y :: l) = 0 := h1
      have : y = 0 := by omega
      rw [h1, ← this]
      exact List.mem_cons_self
  · exact h1
/-- The greatest node of the first i parts with a loop. -/
def bestTo (X : List Gr.Ed) (L : List (List Nat)) : Nat → Int
  | 0 => -1
  | i + 1 => if loopP X ((L[i]?).getD []) then max (bestTo X L i) (maxN ((L[i]?).getD []) : Int) else bestTo X L i
theorem bestTo_next {X : List Gr.Ed} {L : List (List Nat)} {i : Nat} {l : List Nat} (h : L[i]? = some l) : bestTo X L (i + 1) = if loopP X l then max (bestTo X L i) (maxN l : Int) else bestTo X L i := by
  simp [bestTo, h]
theorem bestTo_top {X : List Gr.Ed} {L : List (List Nat)} (hne : ∀ l ∈ L, l ≠ []) : ∀ i, i ≤ L.length → Top (fun k => ∃ (j : Nat) (l : List Nat), j < i ∧ L[j]? = some l ∧ loopP X l = true ∧ k ∈ l) (bestTo X L i)
  | 0, _ => .inl ⟨rfl, fun k ⟨j, l, h, _⟩ => absurd h (Nat.not_lt_zero _)⟩
  | i + 1, hi => by
    obtain ⟨l, hl⟩ : ∃ l, L[i]? = some l := ⟨_, List.getElem?_eq_getElem (by omega)⟩
    have T := bestTo_top (X := X) hne i (by omega)
    have hm := maxN_mem (hne l (List.mem_of_getElem? hl))
    rw [bestTo_next hl]
    have split : ∀ k, (∃ (j : Nat) (l : List Nat), j < i + 1 ∧ L[j]? = some l ∧ loopP X l = true ∧ k ∈ l) → (∃ (j : Nat) (l : List Nat), j < i ∧ L[j]? = some l ∧ loopP X l = true ∧ k ∈ l) ∨ (loopP X l = true ∧ k ∈ l) := by
      rintro k ⟨j, m, h1, h2, h3, h4⟩
      by_cases e : j = i
      · subst e
        rw [hl] at h2
        cases h2
        exact .inr ⟨h3, h4⟩
      · exact .inl ⟨j, m, by omega, h2, h3, h4⟩
    cases hp : loopP X l with
    | false =>
      rw [if_neg (by simp)]
      have iff : ∀ k, (∃ (j : Nat) (l : List Nat), j < i + 1 ∧ L[j]? = some l ∧ loopP X l = true ∧ k ∈ l) → (∃ (j : Nat) (l : List Nat), j < i ∧ L[j]? = some l ∧ loopP X l = true ∧ k ∈ l) := fun k h => by
        rcases split k h with h | ⟨h, _⟩
        · exact h
        · rw [hp] at h; cases h
      rcases T with ⟨h1, h2⟩ | ⟨k, h1, ⟨j, m, a1, a2⟩, h3⟩
      · exact .inl ⟨h1, fun k h => h2 k (iff k h)⟩
      · exact .inr ⟨k, h1, ⟨j, m, by omega, a2⟩, fun j h => h3 j (iff j h)⟩
    | true =>
      rw [if_pos rfl]
      have here : ∃ (j : Nat) (m : List Nat), j < i + 1 ∧ L[j]? = some m ∧ loopP X m = true ∧ maxN l ∈ m := ⟨i, l, by omega, hl, hp, hm⟩
      rcases T with ⟨h1, h2⟩ | ⟨k, h1, ⟨j, m, a1, a2⟩, h3⟩
      · refine .inr ⟨maxN l, by rw [h1]; omega, here, fun k h => ?_⟩
        rcases split k h with h | ⟨_, h⟩
        · exact absurd h (h2 k)
        · exact maxN_ge h
      · rcases Nat.le_total k (maxN l) with hle | hle
        · refine .inr ⟨maxN l, by rw [h1]; omega, here, fun j h => ?_⟩
          rcases split j h with h | ⟨_, h⟩
          · exact Nat.le_trans (h3 j h) hle
          · exact maxN_ge h
        · refine .inr ⟨k, by rw [h1]; omega, ⟨j, m, by omega, a2⟩, fun j h => ?_⟩
          rcases split j h with h | ⟨_, h⟩
          · exact h3 j h
          · exact Nat.le_trans (maxN_ge h) hle
theorem cls_self {X : List Gr.Ed} {n r : Nat} (h : r < n) : r ∈ Gr.cls X n r := Gr.cls_mem.2 ⟨h, Gr.eqv_refl X n r⟩
/-- A part has a loop just if its nodes come to themselves. -/
theorem loop_cls {X : List Gr.Ed} {n r x : Nat} (hX : In X n) (hx : x ∈ Gr.cls X n r) : loopP X (Gr.cls X n r) = Gr.W X n x x := by
  have hxn := (Gr.cls_mem.1 hx).1
  have hnd : (Gr.cls X n r).Nodup := List.nodup_range.filter _
  have hW : ∀ y, y ∈ Gr.cls X n r → y ≠ x → Gr.W X n x x = true := fun y hy hne => by
    obtain ⟨h1, h2⟩ := Gr.cls_mem.1 hy
    have h3 : Gr.eqv X n x y = true := by
      by_cases hr : r < n
      · exact Gr.eqv_trans hr (Gr.eqv_symm (Gr.cls_mem.1 hx).2) h2
      · rcases Gr.eqv_of.1 h2 with h | ⟨h, _⟩
        · omega
        · exact absurd (hX.ways n r y h).1 hr
    rcases Gr.eqv_of.1 h3 with h | ⟨h4, h5⟩
    · exact absurd h.symm hne
    · exact Gr.W_trans X n x y x h1 h4 h5
  rw [Bool.eq_iff_iff]
  constructor
  · intro h
    simp only [loopP, Bool.or_eq_true, decide_eq_true_eq] at h
    rcases h with h | h
    · match hl : Gr.cls X n r, h with
      | a :: b :: l, _ =>
        rw [hl] at hnd hW
        by_cases e : a = x
        · refine hW b (by simp) fun e' => ?_
          subst e; subst e'
          simp at hnd
        · exact hW a (by simp) e
    · match hl : Gr.cls X n r with
      | [] => rw [hl] at hx; cases hx
      | [a] =>
        rw [hl] at h hx
        obtain rfl := List.mem_singleton.1 hx
        exact Gr.W_edge X x x h n
      | a :: b :: l =>
        rw [hl] at hnd hW
        by_cases e : a = x
        · refine hW b (by simp) fun e' => ?_
          subst e; subst e'
          simp at hnd
        · exact hW a (by simp) e
  · intro h
    simp only [loopP, Bool.or_eq_true, decide_eq_true_eq]
    match hl : Gr.cls X n r with
    | [] => rw [hl] at hx; cases hx
    | a :: b :: l => left; simp
    | [a] =>
      right
      have hxa : x = a := by rw [hl] at hx; exact List.mem_singleton.1 hx
      show Gr.E X a a = true
      rw [← hxa]
      rcases W_first X n x x h with he | ⟨k, he, hw⟩
      · exact he
      · have hk : k ∈ Gr.cls X n r := by
          refine Gr.cls_mem.2 ⟨(hX.E he).2, Gr.eqv_trans hxn (Gr.cls_mem.1 hx).2 (Gr.eqv_of.2 (.inr ⟨Gr.W_edge X x k he n, hw⟩))⟩
        rw [hl] at hk
        have := List.mem_singleton.1 hk
        rw [this, ← hxa] at he
        exact he
theorem parts_ne {X : List Gr.Ed} {n : Nat} : ∀ l ∈ Gr.parts X n, l ≠ [] := fun l hl => by
  obtain ⟨i, hi, e⟩ := List.mem_iff_getElem.1 hl
  obtain ⟨r, hr, _, rfl, _⟩ := Gr.parts_at (X := X) (n := n) (i := i) (l := l) (by rw [List.getElem?_eq_getElem hi, e])
  exact List.ne_nil_of_mem (cls_self hr)
/-- By parts it is the same. -/
theorem best_worst {X : List Gr.Ed} {n : Nat} (hX : In X n) : bestTo X (Gr.parts X n) (Gr.parts X n).length = worst X n := by
  have T := bestTo_top (X := X) (L := Gr.parts X n) parts_ne _ (Nat.le_refl _)
  refine Top.one ?_ (worst_top X n)
  have iff : ∀ k, (∃ (j : Nat) (l : List Nat), j < (Gr.parts X n).length ∧ (Gr.parts X n)[j]? = some l ∧ loopP X l = true ∧ k ∈ l) ↔ (k < n ∧ Gr.W X n k k = true) := fun k => by
    constructor
    · rintro ⟨j, l, _, h2, h3, h4⟩
      obtain ⟨r, hr, _, rfl, _⟩ := Gr.parts_at h2
      rw [loop_cls hX h4] at h3
      exact ⟨(Gr.cls_mem.1 h4).1, h3⟩
    · rintro ⟨h1, h2⟩
      obtain ⟨i, l, h3, h4⟩ := Gr.parts_all (X := X) h1
      obtain ⟨r, hr, _, rfl, _⟩ := Gr.parts_at h3
      exact ⟨i, _, (List.getElem?_eq_some_iff.1 h3).1, h3, by rw [loop_cls hX h4]; exact h2, h4⟩
  rcases T with ⟨h1, h2⟩ | ⟨k, h1, h2, h3⟩
  · exact .inl ⟨h1, fun k hk => h2 k ((iff k).2 hk)⟩
  · exact .inr ⟨k, h1, (iff k).1 h2, fun j hj => h3 j ((iff j).2 hj)⟩

/-! ### Those that are taken -/
def touches (k : Int) (e : Gr.Ed) : Bool := decide (e.f = k) || decide (e.t = k)
def wo (X : List Gr.Ed) (k : Int) : List Gr.Ed := X.filter (fun e => !touches k e)
def vic (n : Nat) : Nat → List Gr.Ed → List Nat → List Nat
  | 0, _, l => l
  | f + 1, X, l => if worst X n = -1 then l else vic n f (wo X (worst X n)) (l ++ [(worst X n).toNat])
theorem vic_end {n f : Nat} {X : List Gr.Ed} {l : List Nat} (h : worst X n = -1) : vic n f X l = l := by
  cases f with
  | zero => rfl
  | succ f => simp [vic, h]
theorem wo_in {X : List Gr.Ed} {n : Nat} {k : Int} (h : In X n) : In (wo X k) n := fun e he => h e (List.mem_filter.1 he).1
theorem wo_less {X : List Gr.Ed} {n k : Nat} (hw : Gr.W X n k k = true) : (wo X k).length < X.length := by
  have : ∃ j, Gr.E X k j = true := by
    rcases W_first X n k k hw with h | ⟨j, h, _⟩
    · exact ⟨_, h⟩
    · exact ⟨_, h⟩
  obtain ⟨j, hj⟩ := this
  have hm : Gr.ed k j ∈ X := by simpa [Gr.E] using hj
  have h1 := List.length_filter_le (fun e => !touches (k : Int) e) X
  rcases Nat.lt_or_ge (wo X k).length X.length with h | h
  · exact h
  · have h2 : (wo X k).length = X.length := by unfold wo at h ⊢; omega
    have := List.length_filter_eq_length_iff.1 h2 _ hm
    simp [touches, Gr.ed] at this
theorem vic_step {n f k : Nat} {X : List Gr.Ed} {l : List Nat} (h : worst X n = (k : Int)) (hw : Gr.W X n k k = true) (hf : X.length ≤ f) : ∃ f', (wo X k).length ≤ f' ∧ vic n f X l = vic n f' (wo X k) (l ++ [k]) := by
  have := wo_less hw
  cases f with
  | zero => omega
  | succ f =>
    refine ⟨f, by omega, ?_⟩
    simp only [vic]
    rw [h, if_neg (by omega), Int.toNat_natCast]
def taken (n : Int) (X : List Gr.Ed) : List Nat := if Gr.check n X = 0 then vic n.toNat X.length X [] else []
def rise (l : List Nat) : List Nat := l.mergeSort (fun x y => decide (x ≤ y))
theorem rise_len (l : List Nat) : (rise l).length = l.length := List.length_mergeSort l
theorem rise_mem {l : List Nat} {x : Nat} : x ∈ rise l ↔ x ∈ l := List.mem_mergeSort
theorem rise_nil : rise [] = [] := by simp [rise]
theorem rise_ints (l : List Nat) : (l.map (fun (x : Nat) => (x : Int))).mergeSort (fun x y => decide (x ≤ y)) = (rise l).map (fun (x : Nat) => (x : Int)) := by
  rw [rise, List.map_mergeSort]
  intro a _ b _
  simp
/-- What is left without all of some. -/
def free (X : List Gr.Ed) (l : List Nat) : List Gr.Ed := X.filter (fun e => !l.any (fun k => touches k e))
theorem free_nil (X : List Gr.Ed) : free X [] = X := by simp [free]
theorem free_snoc (X : List Gr.Ed) (l : List Nat) (k : Nat) : free X (l ++ [k]) = wo (free X l) k := by
  unfold free wo
  rw [List.filter_filter]
  apply List.filter_congr
  intro e _
  simp [Bool.and_comm]
theorem free_congr (X : List Gr.Ed) {l m : List Nat} (h : ∀ k, k ∈ l ↔ k ∈ m) : free X l = free X m := by
  unfold free
  apply List.filter_congr
  intro e _
  congr 1
  rw [Bool.eq_iff_iff, List.any_eq_true, List.any_eq_true]
  constructor
  · rintro ⟨k, h1, h2⟩; exact ⟨k, (h k).1 h1, h2⟩
  · rintro ⟨k, h1, h2⟩; exact ⟨k, (h k).2 h1, h2⟩
theorem free_in {X : List Gr.Ed} {n : Nat} {l : List Nat} (h : In X n) : In (free X l) n := fun e he => h e (List.mem_filter.1 he).1
theorem vic_free {n : Nat} {X : List Gr.Ed} : ∀ f (l : List Nat), (free X l).length ≤ f → (∀ k ∈ l, k < n) → worst (free X (vic n f (free X l) l)) n = -1 ∧ (∀ k ∈ vic n f (free X l) l, k < n) ∧ (l ≠ [] → vic n f (free X l) l ≠ [])
  | f, l, hf, hn => by
    by_cases h : worst (free X l) n = -1
    · rw [vic_end h]
      exact ⟨h, hn, fun h => h⟩
    · obtain ⟨k, h1, h2, h3⟩ := worst_some h
      have hl := wo_less h3
      cases f with
      | zero => omega
      | succ f =>
        have e : vic n (f + 1) (free X l) l = vic n f (free X (l ++ [k])) (l ++ [k]) := by
          rw [free_snoc]
          simp only [vic]
          rw [h1, if_neg (by omega), Int.toNat_natCast]
        rw [e]
        obtain ⟨a, b, c⟩ := vic_free (X := X) f (l ++ [k]) (by rw [free_snoc]; omega) (fun x hx => by
          rcases List.mem_append.1 hx with hx | hx
          · exact hn x hx
          · rw [List.mem_singleton.1 hx]; exact h2)
        exact ⟨a, b, fun _ => c (by simp)⟩
theorem vic_none {n : Nat} {X : List Gr.Ed} (h : vic n X.length X [] = []) : worst X n = -1 := by
  apply Classical.byContradiction
  intro hc
  obtain ⟨k, h1, h2, h3⟩ := worst_some hc
  obtain ⟨f, hf, e⟩ := vic_step (l := []) h1 h3 (Nat.le_refl X.length)
  rw [e, List.nil_append] at h
  have := (vic_free (n := n) (X := X) f [k] (by rw [show [k] = [] ++ [k] from rfl, free_snoc, free_nil]; exact hf) (by simp; exact h2)).2.2 (by simp)
  rw [show free X [k] = wo X k by rw [show [k] = [] ++ [k] from rfl, free_snoc, free_nil]] at this
  exact this h

/-! ### Orders and loops -/
theorem order_noloop {X : List Gr.Ed} {n : Nat} {l : List Nat} (hX : In X n) (h : Gr.order X n = some l) : ∀ k, k < n → Gr.W X n k k = false := by
  obtain ⟨hF, hl⟩ := Gr.order_some h
  have hE : ∀ i j, Gr.E X i j = true → l.idxOf i < l.idxOf j := fun i j he => by
    obtain ⟨hi, hj⟩ := hX.E he
    have hm := (Gr.all_in n l hF.nd hF.lt).2 hl j hj
    have hb : l[l.idxOf j]? = some j := by
      rw [List.getElem?_eq_getElem (List.idxOf_lt_length_of_mem hm)]
      simp
    obtain ⟨a, ha, e⟩ := hF.pre _ j hb i hi he
    obtain ⟨h1, h2⟩ := List.getElem?_eq_some_iff.1 e
    have h3 : l[a]? = l[l.idxOf i]? := by
      have hmi : i ∈ l := by rw [← h2]; exact List.getElem_mem h1
      rw [e, List.getElem?_eq_getElem (List.idxOf_lt_length_of_mem hmi)]
      simp
    have := (List.getElem?_inj h1 hF.nd).1 h3
    omega
  have hW : ∀ b i j, Gr.W X b i j = true → l.idxOf i < l.idxOf j := by
    intro b
    induction b with
    | zero => exact hE
    | succ b ih =>
      intro i j hw
      simp only [Gr.W, Bool.or_eq_true, Bool.and_eq_true] at hw
      rcases hw with hw | ⟨h1, h2⟩
      · exact ih i j hw
      · exact Nat.lt_trans (ih i b h1) (ih b j h2)
  intro k _
  rw [Bool.eq_false_iff]
  intro hw
  exact absurd (hW n k k hw) (Nat.lt_irrefl _)
theorem order_iff {X : List Gr.Ed} {n : Nat} (hX : In X n) : (Gr.order X n).isSome = true ↔ worst X n = -1 := by
  constructor
  · intro h
    obtain ⟨l, hl⟩ := Option.isSome_iff_exists.1 h
    rcases worst_top X n with ⟨h1, _⟩ | ⟨k, _, ⟨h2, h3⟩, _⟩
    · exact h1
    · rw [order_noloop hX hl k h2] at h3; cases h3
  · intro h
    cases ho : Gr.order X n with
    | some l => rfl
    | none =>
      obtain ⟨k, hk, hw⟩ := Gr.order_none ho
      rw [worst_none h k hk] at hw; cases hw
theorem ordCode_iff {X : List Gr.Ed} {n : Nat} (h : Gr.check n X = 0) : Gr.ordCode n X = 0 ↔ worst X n = -1 := by
  have hX := in_of h
  rw [← order_iff hX]
  unfold Gr.ordCode
  rw [if_pos h, Int.toNat_natCast]
  cases (Gr.order X n).isSome <;> simp
/-- Without those that are taken there is no loop; and none is taken just if there was none. -/
theorem victims_free {X : List Gr.Ed} {n : Nat} (h : Gr.check n X = 0) : Gr.ordCode n (free X (rise (taken n X))) = 0 ∧ (Gr.ordCode n X = 0 ↔ taken n X = []) := by
  obtain ⟨h1, h2, h3, h4⟩ := Gr.check_ok h
  have hX := in_of h
  have ht : taken n X = vic n X.length X [] := by unfold taken; rw [if_pos h, Int.toNat_natCast]
  have hc : Gr.check n (free X (rise (taken n X))) = 0 := check_in (by omega) (Nat.le_trans (List.length_filter_le _ _) h3) (free_in hX)
  have hv := vic_free (n := n) (X := X) X.length [] (by rw [free_nil]; exact Nat.le_refl _) (by simp)
  rw [free_nil, ← ht] at hv
  constructor
  · rw [ordCode_iff hc, free_congr X (m := taken n X) (fun k => rise_mem)]
    exact hv.1
  · rw [ordCode_iff h]
    constructor
    · intro h; rw [ht, vic_end h]
    · intro h; rw [ht] at h; exact vic_none h
theorem vic_len {n : Nat} : ∀ f (X : List Gr.Ed) (l : List Nat), (vic n f X l).length ≤ l.length + X.length
  | 0, X, l => by simp [vic]
  | f + 1, X, l => by
    by_cases h : worst X n = -1
    · rw [vic_end h]; omega
    · obtain ⟨k, h1, h2, h3⟩ := worst_some h
      have hl := wo_less h3
      have e : vic n (f + 1) X l = vic n f (wo X k) (l ++ [k]) := by
        simp only [vic]
        rw [h1, if_neg (by omega), Int.toNat_natCast]
      rw [e]
      have := vic_len (n := n) f (wo X k) (l ++ [k])
      rw [List.length_append, List.length_singleton] at this
      omega

/-! ### The rules -/
def ruleCode (r a b : Int) : Int := if r ≠ 1 ∧ r ≠ 2 then 1 else if a = b then 4 else 0
def ruleDo (r a b : Int) : Int := if r ≠ 1 ∧ r ≠ 2 then 0 else if a = b then 0 else if r = 1 then (if a < b then 1 else 2) else (if a < b then 3 else 1)
/-- Who waits, of those that ask. -/
def waits (r : Int) (X : List Gr.Ed) : List Gr.Ed := X.filter (fun e => decide (ruleCode r e.f e.t = 0) && decide (ruleDo r e.f e.t = 1))
theorem wait_dir {r : Int} {X : List Gr.Ed} : (∀ e ∈ waits r X, e.f < e.t) ∨ (∀ e ∈ waits r X, e.t < e.f) := by
  by_cases h : r = 1
  · left
    intro e he
    have := (List.mem_filter.1 he).2
    simp only [Bool.and_eq_true, decide_eq_true_eq] at this
    obtain ⟨h1, h2⟩ := this
    unfold ruleCode at h1
    unfold ruleDo at h2
    subst h
    split at h1
    · cases h1
    split at h1
    · cases h1
    · rename_i h3 h4
      rw [if_neg h3, if_neg h4, if_pos rfl] at h2
      split at h2
      · assumption
      · cases h2
  · right
    intro e he
    have := (List.mem_filter.1 he).2
    simp only [Bool.and_eq_true, decide_eq_true_eq] at this
    obtain ⟨h1, h2⟩ := this
    unfold ruleCode at h1
    unfold ruleDo at h2
    split at h1
    · cases h1
    split at h1
    · cases h1
    · rename_i h3 h4
      rw [if_neg h3, if_neg h4, if_neg h] at h2
      split at h2
      · cases h2
      · omega
theorem W_rises {X : List Gr.Ed} (h : ∀ e ∈ X, e.f < e.t) : ∀ b i j, Gr.W X b i j = true → i < j
  | 0, i, j, hw => by
    have := h (Gr.ed i j) (by simpa [Gr.W, Gr.E] using hw)
    simp [Gr.ed] at this
    exact this
  | b + 1, i, j, hw => by
    simp only [Gr.W, Bool.or_eq_true, Bool.and_eq_true] at hw
    rcases hw with hw | ⟨h1, h2⟩
    · exact W_rises h b i j hw
    · exact Nat.lt_trans (W_rises h b i b h1) (W_rises h b b j h2)
theorem W_falls {X : List Gr.Ed} (h : ∀ e ∈ X, e.t < e.f) : ∀ b i j, Gr.W X b i j = true → j < i
  | 0, i, j, hw => by
    have := h (Gr.ed i j) (by simpa [Gr.W, Gr.E] using hw)
    simp [Gr.ed] at this
    exact this
  | b + 1, i, j, hw => by
    simp only [Gr.W, Bool.or_eq_true, Bool.and_eq_true] at hw
    rcases hw with hw | ⟨h1, h2⟩
    · exact W_falls h b i j hw
    · exact Nat.lt_trans (W_falls h b b j h2) (W_falls h b i b h1)
/-- ROSENKRANTZ, STEARNS, LEWIS: by a rule nobody waits for ever. -/
theorem waits_order {r : Int} {X : List Gr.Ed} {n : Nat} (hn : n ≤ 60) (hX : In X n) : Gr.ordCode n (waits r X) = 0 ∨ Gr.ordCode n (waits r X) = 2 := by
  have hI : In (waits r X) n := fun e he => hX e (List.mem_filter.1 he).1
  by_cases hl : (waits r X).length ≤ 2000
  · left
    have hc := check_in hn hl hI
    rw [ordCode_iff hc]
    rcases worst_top (waits r X) n with ⟨h1, _⟩ | ⟨k, _, ⟨h2, h3⟩, _⟩
    · exact h1
    · rcases wait_dir (r := r) (X := X) with hd | hd
      · exact absurd (W_rises hd n k k h3) (Nat.lt_irrefl _)
      · exact absurd (W_falls hd n k k h3) (Nat.lt_irrefl _)
  · right
    have hc : Gr.check n (waits r X) = 2 := Gr.check_many (by omega) (by omega)
    unfold Gr.ordCode
    rw [if_neg (by rw [hc]; decide), hc]
end Wa
end Go.Proofs.YtbgcldckgiiedacDoor.PWait
