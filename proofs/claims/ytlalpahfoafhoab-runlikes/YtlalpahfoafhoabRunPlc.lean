/-
  When two runs are like each other, in plain words (no program in it): at which places a transaction's operations stand, which place of the one run is which of the other. And what follows: neighbours of unlike transactions that do not clash may change places; ESWARAN, GRAY, LORIE, TRAIGER; PAPADIMITRIOU: what commits is like the same transactions one behind another in an order of the edges, and where these have a loop like no such run. No conditions.
-/
import Derived.Test.YtlalpahfoafhoabRunNum
namespace Go.Proofs.Ytlalpahfoafhoab.PRun
open PGraph
namespace Rn

/-! ### One ahead of another -/
def Pair {α : Type} (l : List α) (p q : α) : Prop := ∃ a b : Nat, a < b ∧ l[a]? = some p ∧ l[b]? = some q
theorem Pair_cons {α : Type} {o : α} {l : List α} {p q : α} : Pair (o :: l) p q ↔ (o = p ∧ q ∈ l) ∨ Pair l p q := by
  constructor
  · rintro ⟨a, b, h, h1, h2⟩
    cases a with
    | zero =>
      cases b with
      | zero => omega
      | succ b =>
        simp at h1 h2
        exact .inl ⟨h1, List.mem_of_getElem? h2⟩
    | succ a =>
      cases b with
      | zero => omega
      | succ b =>
        simp at h1 h2
        exact .inr ⟨a, b, by omega, h1, h2⟩
  · rintro (⟨rfl, h⟩ | ⟨a, b, h, h1, h2⟩)
    · obtain ⟨b, hb⟩ := List.getElem?_of_mem h
      exact ⟨0, b + 1, by omega, rfl, by simpa using hb⟩
    · exact ⟨a + 1, b + 1, by omega, by simpa using h1, by simpa using h2⟩
theorem Pair_filter {α : Type} (c : α → Bool) : ∀ (l : List α) (p q : α), Pair (l.filter c) p q ↔ Pair l p q ∧ c p = true ∧ c q = true
  | [], p, q => by
    constructor
    · rintro ⟨a, b, h, h1, _⟩; simp at h1
    · rintro ⟨⟨a, b, h, h1, _⟩, _⟩; simp at h1
  | o :: l, p, q => by
    rw [Pair_cons]
    cases ho : c o with
    | true =>
      rw [List.filter_cons_of_pos ho, Pair_cons, Pair_filter c l p q, List.mem_filter]
      constructor
      · rintro (⟨rfl, h1, h2⟩ | ⟨h1, h2, h3⟩)
        · exact ⟨.inl ⟨rfl, h1⟩, ho, h2⟩
        · exact ⟨.inr h1, h2, h3⟩
      · rintro ⟨⟨rfl, h1⟩ | h1, h2, h3⟩
        · exact .inl ⟨rfl, h1, h3⟩
        · exact .inr ⟨h1, h2, h3⟩
    | false =>
      rw [List.filter_cons_of_neg (by rw [ho]; exact Bool.false_ne_true), Pair_filter c l p q]
      constructor
      · rintro ⟨h1, h2, h3⟩; exact ⟨.inr h1, h2, h3⟩
      · rintro ⟨⟨rfl, h1⟩ | h1, h2, h3⟩
        · rw [ho] at h2; cases h2
        · exact ⟨h1, h2, h3⟩

/-! ### The places of a transaction -/
def own (l : List Op) (t : Nat) : List Op := l.filter fun o => decide (o.x = t)
def plcF : Nat → List Op → Nat → List Nat
  | _, [], _ => []
  | s, o :: r, t => if o.x = t then s :: plcF (s + 1) r t else plcF (s + 1) r t
def plc (l : List Op) (t : Nat) : List Nat := plcF 0 l t
theorem plcF_append : ∀ (X Y : List Op) (s t : Nat), plcF s (X ++ Y) t = plcF s X t ++ plcF (s + X.length) Y t
  | [], Y, s, t => by simp [plcF]
  | o :: X, Y, s, t => by
    simp only [List.cons_append, plcF, plcF_append X Y (s + 1) t, List.length_cons]
    rw [show s + 1 + X.length = s + (X.length + 1) by omega]
    split <;> simp
theorem plcF_mem : ∀ (X : List Op) (s t p : Nat), p ∈ plcF s X t → s ≤ p ∧ p < s + X.length
  | [], s, t, p, h => by simp [plcF] at h
  | o :: X, s, t, p, h => by
    simp only [plcF] at h
    rw [List.length_cons]
    split at h
    · rcases List.mem_cons.1 h with rfl | h
      · omega
      · have := plcF_mem X (s + 1) t p h; omega
    · have := plcF_mem X (s + 1) t p h; omega
theorem plcF_len : ∀ (X : List Op) (s t : Nat), (plcF s X t).length = (own X t).length
  | [], s, t => rfl
  | o :: X, s, t => by
    have := plcF_len X (s + 1) t
    simp only [plcF, own]
    unfold own at this
    by_cases h : o.x = t
    · rw [if_pos h, List.filter_cons_of_pos (by simp [h]), List.length_cons, List.length_cons, this]
    · rw [if_neg h, List.filter_cons_of_neg (by simp [h]), this]
theorem plcF_none {X : List Op} {s t : Nat} (h : ∀ o ∈ X, o.x ≠ t) : plcF s X t = [] := by
  apply List.eq_nil_of_length_eq_zero
  rw [plcF_len]
  unfold own
  rw [List.filter_eq_nil_iff.2 (fun o ho => by simpa using h o ho)]
  rfl
theorem plc_snoc (X : List Op) (o : Op) (t : Nat) : plc (X ++ [o]) t = plc X t ++ if o.x = t then [X.length] else [] := by
  unfold plc
  rw [plcF_append]
  simp only [plcF, Nat.zero_add]
theorem plc_none (t : Nat) : plc [] t = [] := rfl
theorem plc_len (X : List Op) (t : Nat) : (plc X t).length = (own X t).length := plcF_len X 0 t
theorem plc_lt {X : List Op} {t p : Nat} (h : p ∈ plc X t) : p < X.length := by have := plcF_mem X 0 t p h; omega
/-- What stands at a transaction's n-th place is its n-th operation. -/
theorem plcF_at : ∀ (X : List Op) (s t n p : Nat), (plcF s X t)[n]? = some p → ∃ o, X[p - s]? = some o ∧ (own X t)[n]? = some o
  | [], s, t, n, p, h => by simp [plcF] at h
  | o :: X, s, t, n, p, h => by
    simp only [plcF] at h
    by_cases hx : o.x = t
    · rw [if_pos hx] at h
      unfold own
      rw [List.filter_cons_of_pos (by simp [hx])]
      cases n with
      | zero =>
        simp at h
        subst h
        exact ⟨o, by simp, by simp⟩
      | succ n =>
        have h : (plcF (s + 1) X t)[n]? = some p := by simpa using h
        obtain ⟨q, h1, h2⟩ := plcF_at X (s + 1) t n p h
        have := (plcF_mem X (s + 1) t p (List.mem_of_getElem? h)).1
        refine ⟨q, ?_, by rw [List.getElem?_cons_succ]; exact h2⟩
        rw [show p - s = (p - (s + 1)) + 1 by omega]
        simpa using h1
    · rw [if_neg hx] at h
      obtain ⟨q, h1, h2⟩ := plcF_at X (s + 1) t n p h
      have := (plcF_mem X (s + 1) t p (List.mem_of_getElem? h)).1
      refine ⟨q, ?_, by unfold own; rw [List.filter_cons_of_neg (by simp [hx])]; exact h2⟩
      rw [show p - s = (p - (s + 1)) + 1 by omega]
      simpa using h1
theorem plc_at {X : List Op} {t n p : Nat} (h : (plc X t)[n]? = some p) : ∃ o, X[p]? = some o ∧ (own X t)[n]? = some o := plcF_at X 0 t n p h
/-- The how many-th of its transaction the operation at a place is. -/
def rank (l : List Op) (k t : Nat) : Nat := (own (l.take k) t).length
theorem rank_next {l : List Op} {k : Nat} {o : Op} (ho : l[k]? = some o) (t : Nat) : rank l (k + 1) t = rank l k t + if o.x = t then 1 else 0 := by
  unfold rank own
  rw [take_snoc ho, List.filter_append, List.length_append]
  congr 1
  by_cases h : o.x = t
  · simp [h]
  · simp [h]
theorem split_at {l : List Op} {k : Nat} {o : Op} (ho : l[k]? = some o) : l = l.take k ++ o :: l.drop (k + 1) := by
  obtain ⟨h1, h2⟩ := List.getElem?_eq_some_iff.1 ho
  conv => lhs; rw [← List.take_append_drop k l]
  rw [List.drop_eq_getElem_cons h1, h2]
/-- The operation at a place is its transaction's at its rank. -/
theorem plc_rank {l : List Op} {k t : Nat} {o : Op} (ho : l[k]? = some o) (hx : o.x = t) : (plc l t)[rank l k t]? = some k := by
  obtain ⟨h1, _⟩ := List.getElem?_eq_some_iff.1 ho
  unfold plc
  have e := split_at ho
  have hk : (l.take k).length = k := by rw [List.length_take]; omega
  have e2 : plcF 0 l t = plcF 0 (l.take k) t ++ plcF (0 + (l.take k).length) (o :: l.drop (k + 1)) t := by rw [← plcF_append, ← e]
  rw [e2, List.getElem?_append_right (by rw [plcF_len]; exact Nat.le_refl _), plcF_len, hk]
  unfold rank
  simp [plcF, hx]
theorem own_rank {l : List Op} {k t : Nat} {o : Op} (ho : l[k]? = some o) (hx : o.x = t) : (own l t)[rank l k t]? = some o := by
  obtain ⟨q, h1, h2⟩ := plc_at (plc_rank ho hx)
  rw [ho] at h1
  rw [h2, ← h1]

/-! ### Like each other -/
/-- The place in b of what stands at a place of a. -/
def img (a b : List Op) (k : Nat) : Nat := match a[k]? with
  | some o => ((plc b o.x.toNat)[rank a k o.x.toNat]?).getD 0
  | none => 0
def hitB (a b : List Op) (j : Nat) : Bool := match a[j]? with
  | some o => match (plc b o.x.toNat)[rank a j o.x.toNat]? with
    | some q => decide (b[q]? = some o)
    | none => false
  | none => true
def sameTo (a b : List Op) (k : Nat) : Bool := (List.range k).all (hitB a b)
def same (a b : List Op) : Bool := decide (a.length = b.length) && sameTo a b a.length
theorem hitB_iff {a b : List Op} {j : Nat} {o : Op} (ho : a[j]? = some o) : hitB a b j = true ↔ ∃ q, (plc b o.x.toNat)[rank a j o.x.toNat]? = some q ∧ b[q]? = some o := by
  unfold hitB
  rw [ho]
  simp only
  cases hq : (plc b o.x.toNat)[rank a j o.x.toNat]? with
  | none => simp
  | some q => simp
theorem sameTo_next (a b : List Op) (k : Nat) : sameTo a b (k + 1) = (sameTo a b k && hitB a b k) := by simp [sameTo, List.range_succ]
theorem sameTo_le {a b : List Op} {j k : Nat} (h : sameTo a b k = true) (hj : j < k) : hitB a b j = true := by
  simp only [sameTo, List.all_eq_true, List.mem_range] at h
  exact h j hj
theorem same_of {a b : List Op} (hl : a.length = b.length) (h : ∀ j o, a[j]? = some o → ∃ q, (plc b o.x.toNat)[rank a j o.x.toNat]? = some q ∧ b[q]? = some o) : same a b = true := by
  unfold same sameTo
  rw [Bool.and_eq_true, decide_eq_true_eq, List.all_eq_true]
  refine ⟨hl, fun j hj => ?_⟩
  have hj := List.mem_range.1 hj
  exact (hitB_iff (List.getElem?_eq_getElem hj)).2 (h j _ (List.getElem?_eq_getElem hj))
/-- Of two that clash, ahead of a place, the first one is first there too. -/
def tangled (a : List Op) (f : Nat → Nat) (i j : Nat) : Bool := match a[i]?, a[j]? with
  | some p, some q => clash p q && decide (f j < f i)
  | _, _ => false
theorem tangled_at {a : List Op} {i j : Nat} {p q : Op} (hp : a[i]? = some p) (hq : a[j]? = some q) (f : Nat → Nat) : tangled a f i j = (clash p q && decide (f j < f i)) := by unfold tangled; rw [hp, hq]
/-- The first b, and of those ahead of the b-th one i. -/
def keepsTo (a : List Op) (f : Nat → Nat) (b i : Nat) : Bool := (List.range b).all (fun j => (List.range j).all fun k => !tangled a f k j) && (List.range i).all fun k => !tangled a f k b
def keeps (a : List Op) (f : Nat → Nat) : Bool := keepsTo a f a.length 0
theorem keepsTo_start (a : List Op) (f : Nat → Nat) : keepsTo a f 0 0 = true := rfl
theorem keepsTo_round (a : List Op) (f : Nat → Nat) (b : Nat) : keepsTo a f b b = keepsTo a f (b + 1) 0 := by simp [keepsTo, List.range_succ]
theorem keepsTo_next (a : List Op) (f : Nat → Nat) (b i : Nat) : keepsTo a f b (i + 1) = (keepsTo a f b i && !tangled a f i b) := by
  simp only [keepsTo, List.range_succ, List.all_append, List.all_cons, List.all_nil, Bool.and_true, Bool.and_assoc]
theorem keeps_iff {a : List Op} {f : Nat → Nat} : keeps a f = true ↔ ∀ i j p q, i < j → a[i]? = some p → a[j]? = some q → clash p q = true → f i ≤ f j := by
  simp only [keeps, keepsTo, List.range_zero, List.all_nil, Bool.and_true, List.all_eq_true, List.mem_range]
  constructor
  · intro h i j p q hij hp hq hc
    have := h j (List.getElem?_eq_some_iff.1 hq).1 i hij
    rw [tangled_at hp hq, hc] at this
    simpa using this
  · intro h j hj i hij
    rw [tangled_at (List.getElem?_eq_getElem (by omega : i < a.length)) (List.getElem?_eq_getElem hj)]
    cases hc : clash a[i] a[j] with
    | false => rfl
    | true =>
      have := h i j _ _ hij (List.getElem?_eq_getElem (by omega)) (List.getElem?_eq_getElem hj) hc
      simpa using this
theorem keepsTo_not {a : List Op} {f : Nat → Nat} {b i : Nat} (hb : b < a.length) (hi : i < b) (h : tangled a f i b = true) : keeps a f = false := by
  apply Bool.eq_false_iff.2
  intro hk
  simp only [keeps, keepsTo, List.range_zero, List.all_nil, Bool.and_true, List.all_eq_true, List.mem_range] at hk
  have := hk b hb i hi
  rw [h] at this
  cases this
theorem keeps_congr {a : List Op} {f g : Nat → Nat} (h : ∀ i, i < a.length → f i = g i) : keeps a f = keeps a g := by
  apply Bool.eq_iff_iff.2
  rw [keeps_iff, keeps_iff]
  constructor
  · intro H i j p q hij hp hq hc
    rw [← h i (List.getElem?_eq_some_iff.1 hp).1, ← h j (List.getElem?_eq_some_iff.1 hq).1]
    exact H i j p q hij hp hq hc
  · intro H i j p q hij hp hq hc
    rw [h i (List.getElem?_eq_some_iff.1 hp).1, h j (List.getElem?_eq_some_iff.1 hq).1]
    exact H i j p q hij hp hq hc
def like (a b : List Op) : Bool := same a b && keeps a (img a b)
theorem img_at {a b : List Op} {k q : Nat} {o : Op} (ho : a[k]? = some o) (hq : (plc b o.x.toNat)[rank a k o.x.toNat]? = some q) : img a b k = q := by
  unfold img; rw [ho]; simp only; rw [hq]; rfl

/-! ### Two neighbours change places -/
theorem ends_append : ∀ (r p : List Op) (t : Nat), ends (p ++ r) t = r.foldl (fun e o => fin e o t) (ends p t)
  | [], p, t => by simp
  | o :: r, p, t => by
    rw [show p ++ o :: r = (p ++ [o]) ++ r by simp, ends_append r (p ++ [o]) t, ends_snoc]
    rfl
theorem fin_swap {x y : Op} (h : x.x ≠ y.x) (e : Int) (t : Nat) : fin (fin e x t) y t = fin (fin e y t) x t := by
  unfold fin
  split
  · rw [if_neg (by omega)]
  · rfl
theorem fin_other {x : Op} {t : Nat} (h : x.x ≠ t) (e : Int) : fin e x t = e := by unfold fin; rw [if_neg (fun h' => h h'.2)]
/-- The run with two neighbours swapped. -/
def swp (l : List Op) (k : Nat) (x y : Op) : List Op := (l.set k y).set (k + 1) x
theorem split2 {l : List Op} {k : Nat} {x y : Op} (hx : l[k]? = some x) (hy : l[k + 1]? = some y) : l = l.take k ++ x :: y :: l.drop (k + 2) := by
  have h1 := split_at hx
  obtain ⟨h2, h3⟩ := List.getElem?_eq_some_iff.1 hy
  rw [List.drop_eq_getElem_cons h2, h3] at h1
  exact h1
theorem swp_split {l : List Op} {k : Nat} {x y : Op} (hx : l[k]? = some x) (hy : l[k + 1]? = some y) : swp l k x y = l.take k ++ y :: x :: l.drop (k + 2) := by
  have hk : (l.take k).length = k := by
    have := (List.getElem?_eq_some_iff.1 hx).1
    rw [List.length_take]; omega
  unfold swp
  conv => lhs; rw [split2 hx hy]
  rw [List.set_append_right _ _ (by omega), List.set_append_right _ _ (by omega)]
  simp [hk]
def sg (k i : Nat) : Nat := if i = k then k + 1 else if i = k + 1 then k else i
theorem swp_len (l : List Op) (k : Nat) (x y : Op) : (swp l k x y).length = l.length := by simp [swp]
theorem swp_at {l : List Op} {k : Nat} {x y : Op} (hx : l[k]? = some x) (hy : l[k + 1]? = some y) (i : Nat) : (swp l k x y)[sg k i]? = l[i]? := by
  have h1 := (List.getElem?_eq_some_iff.1 hx).1
  have h2 := (List.getElem?_eq_some_iff.1 hy).1
  unfold swp sg
  by_cases e1 : i = k
  · rw [if_pos e1, e1, List.getElem?_set_self (by rw [List.length_set]; exact h2), hx]
  · rw [if_neg e1]
    by_cases e2 : i = k + 1
    · rw [if_pos e2, e2, List.getElem?_set_ne (by omega), List.getElem?_set_self h1, hy]
    · rw [if_neg e2, List.getElem?_set_ne (by omega), List.getElem?_set_ne (by omega)]
theorem swp_plc {l : List Op} {k : Nat} {x y : Op} (hx : l[k]? = some x) (hy : l[k + 1]? = some y) (hne : x.x ≠ y.x) (t : Nat) : plc (swp l k x y) t = (plc l t).map (sg k) := by
  have hk : (l.take k).length = k := by
    have := (List.getElem?_eq_some_iff.1 hx).1
    rw [List.length_take]; omega
  have e1 : plc l t = plcF 0 (l.take k) t ++ (plcF k [x, y] t ++ plcF (k + 2) (l.drop (k + 2)) t) := by
    unfold plc
    conv => lhs; rw [split2 hx hy]
    rw [plcF_append, hk, show x :: y :: l.drop (k + 2) = [x, y] ++ l.drop (k + 2) from rfl, plcF_append, Nat.zero_add]
    rfl
  have e2 : plc (swp l k x y) t = plcF 0 (l.take k) t ++ (plcF k [y, x] t ++ plcF (k + 2) (l.drop (k + 2)) t) := by
    unfold plc
    rw [swp_split hx hy, plcF_append, hk, show y :: x :: l.drop (k + 2) = [y, x] ++ l.drop (k + 2) from rfl, plcF_append, Nat.zero_add]
    rfl
  rw [e1, e2, List.map_append, List.map_append]
  congr 1
  · symm
    have : ∀ p ∈ plcF 0 (l.take k) t, sg k p = p := fun p hp => by
      have := plcF_mem _ _ _ _ hp
      unfold sg; rw [if_neg (by omega), if_neg (by omega)]
    rw [List.map_congr_left this, List.map_id']
  · congr 1
    · simp only [plcF]
      by_cases h1 : x.x = t
      · have h2 : ¬ y.x = t := by omega
        simp [h1, h2, sg]
      · by_cases h2 : y.x = t
        · simp [h1, h2, sg]
        · simp [h1, h2]
    · symm
      have : ∀ p ∈ plcF (k + 2) (l.drop (k + 2)) t, sg k p = p := fun p hp => by
        have := plcF_mem _ _ _ _ hp
        unfold sg; rw [if_neg (by omega), if_neg (by omega)]
      rw [List.map_congr_left this, List.map_id']
theorem swp_check {l : List Op} {k : Nat} {x y : Op} (h : check l = 0) (hx : l[k]? = some x) (hy : l[k + 1]? = some y) (hne : x.x ≠ y.x) : check (swp l k x y) = 0 := by
  have hk : (l.take k).length = k := by
    have := (List.getElem?_eq_some_iff.1 hx).1
    rw [List.length_take]; omega
  have gx := good_at h hx
  have gy := good_at h hy
  refine check_of (by rw [swp_len]; exact (check_zero h).1) fun j o ho => ?_
  have e := swp_split hx hy
  have e2 := split2 hx hy
  rcases Nat.lt_or_ge j k with hj | hj
  · have ho' : l[j]? = some o := by
      unfold swp at ho
      rwa [List.getElem?_set_ne (by omega), List.getElem?_set_ne (by omega)] at ho
    refine ⟨good_at h ho', ?_⟩
    have : (swp l k x y).take j = l.take j := by
      rw [e, List.take_append_of_le_length (by omega), List.take_take, Nat.min_eq_left (by omega)]
    rw [this]; exact live_at h ho'
  · by_cases e0 : j = k
    · subst e0
      have ho' : o = y := by
        rw [e, List.getElem?_append_right (by omega), hk, Nat.sub_self] at ho
        simpa using ho.symm
      subst ho'
      refine ⟨gy, ?_⟩
      rw [e, List.take_left' hk]
      have := live_at h hy
      rw [take_snoc hx, ends_snoc, fin_other (by have := gy.x0; omega)] at this
      exact this
    · by_cases e1 : j = k + 1
      · subst e1
        have ho' : o = x := by
          rw [e, List.getElem?_append_right (by omega), hk, show k + 1 - k = 1 by omega] at ho
          simpa using ho.symm
        subst ho'
        refine ⟨gx, ?_⟩
        rw [e, show l.take k ++ y :: o :: l.drop (k + 2) = (l.take k ++ [y]) ++ (o :: l.drop (k + 2)) by simp, List.take_left' (by simp [hk]), ends_snoc, fin_other (by have := gx.x0; omega)]
        exact live_at h hx
      · have ho' : l[j]? = some o := by
          unfold swp at ho
          rwa [List.getElem?_set_ne (by omega), List.getElem?_set_ne (by omega)] at ho
        refine ⟨good_at h ho', ?_⟩
        have h1 := live_at h ho'
        have t1 : (swp l k x y).take j = l.take k ++ y :: x :: (l.drop (k + 2)).take (j - (k + 2)) := by
          rw [e, List.take_append, hk, List.take_of_length_le (by omega), show j - k = (j - (k + 2)) + 1 + 1 by omega, List.take_succ_cons, List.take_succ_cons]
        have t2 : l.take j = l.take k ++ x :: y :: (l.drop (k + 2)).take (j - (k + 2)) := by
          conv => lhs; rw [e2]
          rw [List.take_append, hk, List.take_of_length_le (by omega), show j - k = (j - (k + 2)) + 1 + 1 by omega, List.take_succ_cons, List.take_succ_cons]
        rw [t2, ends_append] at h1
        rw [t1, ends_append]
        simp only [List.foldl_cons] at h1 ⊢
        rw [← fin_swap hne]
        exact h1
/-- Neighbours of unlike transactions may change places, if they do not clash. -/
theorem swp_like {l : List Op} {k : Nat} {x y : Op} (h : check l = 0) (hx : l[k]? = some x) (hy : l[k + 1]? = some y) (hne : x.x ≠ y.x) : like l (swp l k x y) = !clash x y := by
  have at_ : ∀ j o, l[j]? = some o → (plc (swp l k x y) o.x.toNat)[rank l j o.x.toNat]? = some (sg k j) := fun j o ho => by
    rw [swp_plc hx hy hne, List.getElem?_map, plc_rank ho (by have := (good_at h ho).x0; omega)]
    rfl
  have hs : same l (swp l k x y) = true := same_of (by rw [swp_len]) fun j o ho => ⟨sg k j, at_ j o ho, by rw [swp_at hx hy]; exact ho⟩
  unfold like
  rw [hs, Bool.true_and]
  have hi : ∀ j, j < l.length → img l (swp l k x y) j = sg k j := fun j hj => img_at (List.getElem?_eq_getElem hj) (at_ j _ (List.getElem?_eq_getElem hj))
  rw [keeps_congr hi]
  cases hc : clash x y with
  | true =>
    apply Bool.eq_false_iff.2
    intro hk
    have := keeps_iff.1 hk k (k + 1) x y (by omega) hx hy hc
    unfold sg at this
    rw [if_pos rfl, if_neg (by omega), if_pos rfl] at this
    omega
  | false =>
    refine keeps_iff.2 fun i j p q hij hp hq hpq => ?_
    unfold sg
    by_cases e1 : i = k
    · rw [if_pos e1, if_neg (by omega)]
      by_cases e2 : j = k + 1
      · subst e1; subst e2
        rw [hx] at hp; rw [hy] at hq
        injection hp with hp; injection hq with hq
        subst hp; subst hq
        rw [hc] at hpq; cases hpq
      · rw [if_neg e2]; omega
    · rw [if_neg e1]
      by_cases e2 : i = k + 1
      · rw [if_pos e2]; split
        · omega
        · split <;> omega
      · rw [if_neg e2]; split
        · omega
        · split <;> omega
theorem clash_sum {x y : Op} (gx : Good x) (gy : Good y) (hne : x.x ≠ y.x) : clash x y = (decide (x.k ≤ 2) && decide (y.k ≤ 2) && decide (x.i = y.i) && decide (2 < x.k + y.k)) := by
  have := gx.k0; have := gx.k1; have := gy.k0; have := gy.k1
  apply Bool.eq_iff_iff.2
  simp only [clash, item, Bool.and_eq_true, Bool.or_eq_true, decide_eq_true_eq]
  omega
end Rn
end Go.Proofs.Ytlalpahfoafhoab.PRun
