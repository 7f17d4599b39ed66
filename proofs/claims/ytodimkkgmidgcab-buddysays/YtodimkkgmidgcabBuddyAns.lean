/-
  Room in halves of halves in plain words, second part: what Check, Free, Take and Drop answer of what is taken, and what follows of it. Conditions: none but what Check asks.
-/
import Derived.Test.YtodimkkgmidgcabBuddyNum
namespace Go.Proofs.Ytodimkkgmidgcab.PBuddy
namespace Bd

/-- Is it a block of 2^N places? -/
def win (N : Nat) (x : Bk) : Bool := decide (0 ≤ x.o ∧ x.o ≤ (N : Int) ∧ 0 ≤ x.a ∧ x.a ≤ 2 ^ N - 2 ^ x.o.toNat ∧ x.a % 2 ^ x.o.toNat = 0)
theorem cast_pow (k : Nat) : ((2 ^ k : Nat) : Int) = 2 ^ k := by simp
theorem win_bk {N a k : Nat} : win N (bk a k) = true ↔ k ≤ N ∧ a % 2 ^ k = 0 ∧ a + 2 ^ k ≤ 2 ^ N := by
  unfold win bk
  simp only [Int.toNat_natCast, decide_eq_true_eq]
  have h1 := cast_pow k
  have h2 := cast_pow N
  have h3 : ((a % 2 ^ k : Nat) : Int) = (a : Int) % 2 ^ k := by rw [Int.natCast_emod, h1]
  omega
theorem win_is {N : Nat} {x : Bk} (h : win N x = true) : ∃ a k, x = bk a k ∧ k ≤ N ∧ a % 2 ^ k = 0 ∧ a + 2 ^ k ≤ 2 ^ N := by
  have h' := h
  unfold win at h
  simp only [decide_eq_true_eq] at h
  have e : x = bk x.a.toNat x.o.toNat := by
    obtain ⟨a, o⟩ := x
    unfold bk
    simp only at h
    simp only [Bk.mk.injEq]
    omega
  rw [e] at h'
  exact ⟨_, _, e, win_bk.1 h'⟩

/-- The place behind it. -/
def en (x : Bk) : Nat := x.a.toNat + 2 ^ x.o.toNat
theorem en_bk (a k : Nat) : en (bk a k) = a + 2 ^ k := by simp [en, bk]
/-- Are these blocks, one behind another, from place e on? -/
def chk (N : Nat) : Nat → List Bk → Bool
  | _, [] => true
  | e, x :: r => win N x && decide ((e : Int) ≤ x.a) && chk N (en x) r
theorem chk_cons {N e : Nat} {x : Bk} {r : List Bk} : chk N e (x :: r) = true ↔ ∃ a k, x = bk a k ∧ k ≤ N ∧ a % 2 ^ k = 0 ∧ a + 2 ^ k ≤ 2 ^ N ∧ e ≤ a ∧ chk N (a + 2 ^ k) r = true := by
  rw [chk]
  simp only [Bool.and_eq_true, decide_eq_true_eq]
  refine ⟨fun ⟨⟨h1, h2⟩, h3⟩ => ?_, ?_⟩
  · obtain ⟨a, k, rfl, h4, h5, h6⟩ := win_is h1
    rw [en_bk] at h3
    have h2' : (e : Int) ≤ (a : Int) := h2
    exact ⟨a, k, rfl, h4, h5, h6, by omega, h3⟩
  · rintro ⟨a, k, rfl, h4, h5, h6, h7, h8⟩
    rw [en_bk]
    exact ⟨⟨win_bk.2 ⟨h4, h5, h6⟩, by show (e : Int) ≤ (a : Int); omega⟩, h8⟩
theorem chk_lower {N e e' : Nat} {X : List Bk} (h : chk N e X = true) (he : e' ≤ e) : chk N e' X = true := by
  cases X with
  | nil => rfl
  | cons x r =>
    obtain ⟨a, k, h1, h2, h3, h4, h5, h6⟩ := chk_cons.1 h
    exact chk_cons.2 ⟨a, k, h1, h2, h3, h4, by omega, h6⟩
theorem chk_mem {N : Nat} : ∀ {X : List Bk} {e : Nat}, chk N e X = true → ∀ x ∈ X, ∃ a k, x = bk a k ∧ k ≤ N ∧ a % 2 ^ k = 0 ∧ a + 2 ^ k ≤ 2 ^ N ∧ e ≤ a
  | [], _, _, x, hx => by simp at hx
  | y :: r, e, h, x, hx => by
    obtain ⟨a, k, h1, h2, h3, h4, h5, h6⟩ := chk_cons.1 h
    rcases List.mem_cons.1 hx with rfl | hx
    · exact ⟨a, k, h1, h2, h3, h4, h5⟩
    · obtain ⟨b, j, g1, g2, g3, g4, g5⟩ := chk_mem h6 x hx
      exact ⟨b, j, g1, g2, g3, g4, by omega⟩
theorem chk_sorted {N : Nat} : ∀ {X : List Bk} {e : Nat}, chk N e X = true → X.Pairwise (fun x y => x.a < y.a)
  | [], _, _ => .nil
  | y :: r, e, h => by
    obtain ⟨a, k, rfl, h2, h3, h4, h5, h6⟩ := chk_cons.1 h
    refine List.pairwise_cons.2 ⟨fun x hx => ?_, chk_sorted h6⟩
    obtain ⟨b, j, rfl, _, _, _, g⟩ := chk_mem h6 x hx
    have := pow_pos' k
    show (a : Int) < (b : Int)
    omega

/-- A place that is taken. -/
def Tk (X : List Bk) (p : Nat) : Prop := ∃ a k, bk a k ∈ X ∧ a ≤ p ∧ p < a + 2 ^ k
theorem Tk.nil (p : Nat) : ¬ Tk [] p := fun ⟨_, _, h, _⟩ => by simp at h
theorem Tk.cons {a k : Nat} {r : List Bk} {p : Nat} : Tk (bk a k :: r) p ↔ (a ≤ p ∧ p < a + 2 ^ k) ∨ Tk r p := by
  refine ⟨?_, ?_⟩
  · rintro ⟨b, j, h, h1, h2⟩
    rcases List.mem_cons.1 h with e | e
    · obtain ⟨rfl, rfl⟩ := bk_inj e; exact .inl ⟨h1, h2⟩
    · exact .inr ⟨b, j, e, h1, h2⟩
  · rintro (⟨h1, h2⟩ | ⟨b, j, h, h1, h2⟩)
    · exact ⟨a, k, by simp, h1, h2⟩
    · exact ⟨b, j, by simp [h], h1, h2⟩
theorem Tk.ge {N e : Nat} {X : List Bk} (h : chk N e X = true) {p : Nat} (ht : Tk X p) : e ≤ p := by
  obtain ⟨a, k, hx, h1, _⟩ := ht
  obtain ⟨b, j, e', _, _, _, g⟩ := chk_mem h _ hx
  obtain ⟨rfl, rfl⟩ := bk_inj e'
  omega
theorem Tk.lt {N e : Nat} {X : List Bk} (h : chk N e X = true) {p : Nat} (ht : Tk X p) : p < 2 ^ N := by
  obtain ⟨a, k, hx, h1, h2⟩ := ht
  obtain ⟨b, j, e', _, _, g, _⟩ := chk_mem h _ hx
  obtain ⟨rfl, rfl⟩ := bk_inj e'
  omega

/-- What is free, from place e on. -/
def frL (N : Nat) : Nat → List Bk → List Bk
  | e, [] => fill e (2 ^ N)
  | e, x :: r => fill e x.a.toNat ++ frL N (en x) r
theorem frL_upto {T : Nat → Prop} {N : Nat} (hN : N ≤ 10) : ∀ (X : List Bk) (e : Nat) (L : List Bk), chk N e X = true → (∀ p, e ≤ p → (T p ↔ Tk X p)) → Upto T N e L → Upto T N (2 ^ N) (L ++ frL N e X)
  | [], e, L, _, hT, h => by
    refine Upto.fills hN (Nat.le_refl _) (.inr rfl) _ _ _ (Nat.le_refl _) h h.le fun j j1 j2 => ?_
    rw [hT j j1]
    exact Tk.nil j
  | x :: r, e, L, hc, hT, h => by
    obtain ⟨a, k, rfl, h2, h3, h4, h5, h6⟩ := chk_cons.1 hc
    have hk := pow_pos' k
    have f1 := Upto.fills (e := a) hN (by omega) (.inl ((hT a h5).2 (Tk.cons.2 (.inl ⟨Nat.le_refl _, by omega⟩)))) _ e L (Nat.le_refl _) h h5 (fun j j1 j2 => by
      rw [hT j j1, Tk.cons]
      rintro (⟨g, _⟩ | g)
      · omega
      · have := Tk.ge h6 g; omega)
    have f2 := f1.takens (2 ^ k) h4 (fun j j1 j2 => (hT j (by omega)).2 (Tk.cons.2 (.inl ⟨j1, j2⟩)))
    have f3 := frL_upto hN r (a + 2 ^ k) _ h6 (fun p hp => by
      rw [hT p (by omega), Tk.cons]
      exact ⟨fun g => by rcases g with ⟨_, g⟩ | g; omega; exact g, .inr⟩) f2
    have e1 : frL N e (bk a k :: r) = fill e a ++ frL N (a + 2 ^ k) r := by
      rw [frL, en_bk]; rfl
    rw [e1, ← List.append_assoc]
    exact f3
/-- What is free of 2^N places. -/
def free (N : Nat) (X : List Bk) : List Bk := frL N 0 X
theorem free_is {N : Nat} {X : List Bk} (hN : N ≤ 10) (h : chk N 0 X = true) : Upto (Tk X) N (2 ^ N) (free N X) := by
  have := frL_upto (T := Tk X) hN X 0 [] h (fun _ _ => Iff.rfl) Upto.start
  rw [List.nil_append] at this
  exact this
theorem free_mem {N : Nat} {X : List Bk} (hN : N ≤ 10) (h : chk N 0 X = true) {x : Bk} : x ∈ free N X ↔ ∃ a k, x = bk a k ∧ Mx (Tk X) N a k := by
  rw [(free_is hN h).mem]
  refine ⟨fun ⟨a, k, e, m, _⟩ => ⟨a, k, e, m⟩, fun ⟨a, k, e, m⟩ => ⟨a, k, e, m, ?_⟩⟩
  have := m.1.2.2.1
  have := pow_pos' k
  omega

/-- What is wrong: 1 the order, 4 what is taken. -/
def check (N : Int) (X : List Bk) : Nat := if N < 0 ∨ 10 < N then 1 else if chk N.toNat 0 X = true then 0 else 4
theorem check_ok {N : Int} {X : List Bk} (h : check N X = 0) : ∃ n : Nat, N = n ∧ n ≤ 10 ∧ chk n 0 X = true := by
  unfold check at h
  split at h
  · cases h
  · split at h
    · rename_i h1 h2
      exact ⟨N.toNat, by omega, by omega, h2⟩
    · cases h
theorem check_of {n : Nat} {X : List Bk} (hn : n ≤ 10) : check (n : Int) X = if chk n 0 X = true then 0 else 4 := by
  unfold check
  rw [if_neg (by omega), Int.toNat_natCast]
theorem check_le (N : Int) (X : List Bk) : check N X ≤ 4 := by
  unfold check
  split
  · omega
  · split <;> omega

/-- Of those blocks that have this order or a greater one the first of the least. -/
structure Tight (F : List Bk) (o : Int) (i : Nat) (x : Bk) : Prop where
  at_ : F[i]? = some x
  big : o ≤ x.o
  first : ∀ j y, j < i → F[j]? = some y → o ≤ y.o → x.o < y.o
  least : ∀ y ∈ F, o ≤ y.o → x.o ≤ y.o
theorem Tight.unique {F : List Bk} {o : Int} {i j : Nat} {x y : Bk} (h : Tight F o i x) (g : Tight F o j y) : i = j ∧ x = y := by
  have e : i = j := by
    rcases Nat.lt_trichotomy i j with l | l | l
    · have := g.first i x l h.at_ h.big
      have := h.least y (List.mem_of_getElem? g.at_) g.big
      omega
    · exact l
    · have := h.first j y l g.at_ g.big
      have := g.least x (List.mem_of_getElem? h.at_) h.big
      omega
  subst e
  exact ⟨rfl, Option.some.inj (h.at_.symm.trans g.at_)⟩
/-- Its place, or -1. -/
def Tg (F : List Bk) (o : Int) (n : Nat) (b : Int) : Prop := (b = -1 ∧ ∀ y ∈ F.take n, y.o < o) ∨ ∃ (i : Nat) (x : Bk), b = (i : Int) ∧ i < n ∧ Tight (F.take n) o i x
theorem Tg.start (F : List Bk) (o : Int) : Tg F o 0 (-1) := .inl ⟨rfl, fun y hy => by simp at hy⟩
theorem take_snoc {F : List Bk} {n : Nat} {y : Bk} (h : F[n]? = some y) : F.take (n + 1) = F.take n ++ [y] := by
  obtain ⟨h1, h2⟩ := List.getElem?_eq_some_iff.1 h
  rw [List.take_succ_eq_append_getElem h1, h2]
theorem take_len {F : List Bk} {n : Nat} {y : Bk} (h : F[n]? = some y) : (F.take n).length = n := by
  obtain ⟨h1, _⟩ := List.getElem?_eq_some_iff.1 h
  rw [List.length_take]; omega
theorem Tg.pass {F : List Bk} {o : Int} {n : Nat} {b : Int} {y : Bk} (h : Tg F o n b) (hy : F[n]? = some y) (hs : y.o < o ∨ ∃ (i : Nat) (x : Bk), b = (i : Int) ∧ F[i]? = some x ∧ x.o ≤ y.o) : Tg F o (n + 1) b := by
  unfold Tg
  rw [take_snoc hy]
  rcases h with ⟨rfl, h⟩ | ⟨i, x, rfl, hi, h⟩
  · refine .inl ⟨rfl, fun z hz => ?_⟩
    rcases List.mem_append.1 hz with hz | hz
    · exact h z hz
    · rw [List.mem_singleton.1 hz]
      rcases hs with hs | ⟨i, x, e, _⟩
      · exact hs
      · omega
  · have hl := take_len hy
    refine .inr ⟨i, x, rfl, by omega, ?_, h.big, fun j z hj hz => h.first j z hj ?_, fun z hz hoz => ?_⟩
    · rw [List.getElem?_append_left (by omega)]; exact h.at_
    · rwa [List.getElem?_append_left (by omega)] at hz
    · rcases List.mem_append.1 hz with hz | hz
      · exact h.least z hz hoz
      · rw [List.mem_singleton.1 hz] at hoz ⊢
        rcases hs with hs | ⟨i', x', e, hx', hs⟩
        · omega
        · obtain rfl : i = i' := by omega
          have := h.at_
          rw [List.getElem?_take, if_pos hi, hx'] at this
          cases this
          exact hs
theorem Tg.next {F : List Bk} {o : Int} {n : Nat} {b : Int} {y : Bk} (h : Tg F o n b) (hy : F[n]? = some y) (ho : o ≤ y.o) (hs : b = -1 ∨ ∃ (i : Nat) (x : Bk), b = (i : Int) ∧ F[i]? = some x ∧ y.o < x.o) : Tg F o (n + 1) (n : Int) := by
  unfold Tg
  rw [take_snoc hy]
  have hl := take_len hy
  have key : ∀ z ∈ F.take n, o ≤ z.o → y.o < z.o := by
    intro z hz hoz
    rcases h with ⟨rfl, h⟩ | ⟨i, x, rfl, hi, h⟩
    · have := h z hz; omega
    · rcases hs with hs | ⟨i', x', e, hx', hs⟩
      · omega
      · obtain rfl : i = i' := by omega
        have := h.at_
        rw [List.getElem?_take, if_pos hi, hx'] at this
        cases this
        have := h.least z hz hoz
        omega
  refine .inr ⟨n, y, rfl, by omega, ?_, ho, fun j z hj hz hoz => ?_, fun z hz hoz => ?_⟩
  · rw [List.getElem?_append_right (by omega), hl, Nat.sub_self]; rfl
  · rw [List.getElem?_append_left (by omega)] at hz
    exact key z (List.mem_of_getElem? hz) hoz
  · rcases List.mem_append.1 hz with hz | hz
    · have := key z hz hoz; omega
    · rw [List.mem_singleton.1 hz]; exact Int.le_refl _
/-- The block itself. -/
def tgt (F : List Bk) (o : Int) : Option Bk := (List.range 11).findSome? (fun (s : Nat) => F.find? (fun x => decide (x.o = o + s)))
theorem tgt_none {F : List Bk} {o : Int} (h : ∀ y ∈ F, y.o < o) : tgt F o = none := by
  unfold tgt
  rw [List.findSome?_eq_none_iff]
  intro s _
  rw [List.find?_eq_none]
  intro x hx
  have := h x hx
  simp
  omega
theorem tgt_some {F : List Bk} {o : Int} {i : Nat} {x : Bk} (h : Tight F o i x) (hx : x.o ≤ o + 10) : tgt F o = some x := by
  unfold tgt
  have hs : x.o - o = ((x.o - o).toNat : Int) := by have := h.big; omega
  generalize (x.o - o).toNat = s at hs
  have hs10 : s ≤ 10 := by omega
  rw [List.findSome?_eq_some_iff]
  refine ⟨List.range s, s, (List.range (10 - s)).map (· + (s + 1)), ?_, ?_, ?_⟩
  · rw [show (11 : Nat) = s + (1 + (10 - s)) by omega, List.range_add, Nat.add_comm 1, List.range_succ_eq_map]
    simp only [List.map_cons, List.map_map, Nat.add_zero]
    congr 2
    apply List.map_congr_left
    intro t _
    simp only [Function.comp]
    omega
  · rw [List.find?_eq_some_iff_getElem]
    obtain ⟨h1, h2⟩ := List.getElem?_eq_some_iff.1 h.at_
    refine ⟨by simp; omega, i, h1, h2, fun j hj => ?_⟩
    have := h.first j F[j] hj (List.getElem?_eq_getElem _)
    simp
    omega
  · intro t ht
    rw [List.mem_range] at ht
    rw [List.find?_eq_none]
    intro y hy
    have := h.least y hy
    simp
    omega

/-- The place of a block among what is taken. -/
def idx (X : List Bk) (a : Int) : Nat := X.findIdx (fun x => !decide (x.a < a))
theorem idx_le (X : List Bk) (a : Int) : idx X a ≤ X.length := List.findIdx_le_length
theorem idx_of {X : List Bk} {a : Int} {k : Nat} (hk : k ≤ X.length) (h1 : ∀ j x, j < k → X[j]? = some x → x.a < a) (h2 : ∀ x, X[k]? = some x → a ≤ x.a) : idx X a = k := by
  unfold idx
  rcases Nat.lt_or_ge k X.length with h | h
  · rw [List.findIdx_eq h]
    refine ⟨?_, fun j hj => ?_⟩
    · have := h2 X[k] (List.getElem?_eq_getElem h)
      simp; omega
    · have := h1 j X[j] hj (List.getElem?_eq_getElem (by omega))
      simp; omega
  · obtain rfl : k = X.length := by omega
    rw [List.findIdx_eq_length]
    intro x hx
    obtain ⟨j, hj⟩ := List.getElem?_of_mem hx
    have := h1 j x (List.getElem?_eq_some_iff.1 hj).1 hj
    simp; omega
def ins (X : List Bk) (b : Bk) : List Bk := X.take (idx X b.a) ++ b :: X.drop (idx X b.a)
theorem ins_nil (b : Bk) : ins [] b = [b] := rfl
theorem ins_lt {x : Bk} {r : List Bk} {b : Bk} (h : x.a < b.a) : ins (x :: r) b = x :: ins r b := by
  have e : idx (x :: r) b.a = idx r b.a + 1 := by unfold idx; rw [List.findIdx_cons]; simp [h]
  unfold ins
  rw [e]
  rfl
theorem ins_ge {x : Bk} {r : List Bk} {b : Bk} (h : b.a ≤ x.a) : ins (x :: r) b = b :: x :: r := by
  have e : idx (x :: r) b.a = 0 := by unfold idx; rw [List.findIdx_cons]; simp [show ¬ x.a < b.a by omega]
  unfold ins
  rw [e]
  rfl
theorem chk_ins {N a k : Nat} (hk : k ≤ N) (ha : a % 2 ^ k = 0) (hl : a + 2 ^ k ≤ 2 ^ N) : ∀ {X : List Bk} {e : Nat}, chk N e X = true → e ≤ a → (∀ j, a ≤ j → j < a + 2 ^ k → ¬ Tk X j) → chk N e (ins X (bk a k)) = true
  | [], e, _, he, _ => by rw [ins_nil]; exact chk_cons.2 ⟨a, k, rfl, hk, ha, hl, he, rfl⟩
  | x :: r, e, h, he, hf => by
    obtain ⟨b, j, rfl, h2, h3, h4, h5, h6⟩ := chk_cons.1 h
    have hj := pow_pos' j
    have hk' := pow_pos' k
    rcases Nat.lt_or_ge b a with hlt | hge
    · rw [ins_lt (by show (b : Int) < (a : Int); omega)]
      have hba : b + 2 ^ j ≤ a := by
        rcases Nat.lt_or_ge a (b + 2 ^ j) with g | g
        · exact absurd (Tk.cons.2 (.inl ⟨by omega, g⟩)) (hf a (Nat.le_refl _) (by omega))
        · exact g
      exact chk_cons.2 ⟨b, j, rfl, h2, h3, h4, h5, chk_ins hk ha hl h6 hba fun i i1 i2 g => hf i i1 i2 (Tk.cons.2 (.inr g))⟩
    · rw [ins_ge (by show (a : Int) ≤ (b : Int); omega)]
      have hab : a + 2 ^ k ≤ b := by
        rcases Nat.lt_or_ge b (a + 2 ^ k) with g | g
        · exact absurd (Tk.cons.2 (.inl ⟨Nat.le_refl _, by omega⟩)) (hf b hge g)
        · exact g
      exact chk_cons.2 ⟨a, k, rfl, hk, ha, hl, he, chk_cons.2 ⟨b, j, rfl, h2, h3, h4, hab, h6⟩⟩

/-- What Take answers: what is taken then, where the block begins, the error. -/
def takeA (N : Int) (X : List Bk) (o : Int) : Int × List Bk × Int × Nat :=
  if check N X ≠ 0 then (0, [], 0, check N X) else if o < 0 ∨ N < o then (0, [], 0, 1) else
  match tgt (free N.toNat X) o with
  | none => (0, [], 0, 8)
  | some x => (N, ins X ⟨x.a, o⟩, x.a, 0)
/-- The place of the block that begins there. -/
def spot (X : List Bk) (a : Int) : Nat := X.findIdx (fun x => decide (x.a = a))
theorem spot_of {X : List Bk} {a : Int} {k : Nat} {x : Bk} (hx : X[k]? = some x) (hxa : x.a = a) (h1 : ∀ j y, j < k → X[j]? = some y → y.a ≠ a) : spot X a = k := by
  obtain ⟨g1, g2⟩ := List.getElem?_eq_some_iff.1 hx
  unfold spot
  rw [List.findIdx_eq g1]
  refine ⟨by rw [g2]; simpa using hxa, fun j hj => ?_⟩
  have := h1 j X[j] hj (List.getElem?_eq_getElem (by omega))
  simpa using this
theorem spot_none {X : List Bk} {a : Int} (h : ∀ x ∈ X, x.a ≠ a) : spot X a = X.length := by
  unfold spot
  rw [List.findIdx_eq_length]
  intro x hx
  simpa using h x hx
theorem spot_le (X : List Bk) (a : Int) : spot X a ≤ X.length := List.findIdx_le_length
/-- What Drop answers: what is taken then, the error. -/
def dropA (N : Int) (X : List Bk) (a : Int) : Int × List Bk × Nat :=
  if check N X ≠ 0 then (0, [], check N X) else if spot X a = X.length then (0, [], 6) else (N, X.eraseIdx (spot X a), 0)

theorem takeA_bad {N : Int} {X : List Bk} {o : Int} (h : check N X ≠ 0) : takeA N X o = (0, [], 0, check N X) := by unfold takeA; rw [if_pos h]
theorem takeA_arg {N : Int} {X : List Bk} {o : Int} (h : check N X = 0) (ho : o < 0 ∨ N < o) : takeA N X o = (0, [], 0, 1) := by unfold takeA; rw [if_neg (by omega), if_pos ho]
theorem takeA_full {N : Int} {X : List Bk} {o : Int} (h : check N X = 0) (ho : ¬ (o < 0 ∨ N < o)) (hf : ∀ y ∈ free N.toNat X, y.o < o) : takeA N X o = (0, [], 0, 8) := by
  unfold takeA
  rw [if_neg (by omega), if_neg ho, tgt_none hf]
theorem takeA_ok {N : Int} {X : List Bk} {o : Int} {i : Nat} {x : Bk} (h : check N X = 0) (ho : ¬ (o < 0 ∨ N < o)) (hf : Tight (free N.toNat X) o i x) : takeA N X o = (N, ins X ⟨x.a, o⟩, x.a, 0) := by
  obtain ⟨n, rfl, hn, hc⟩ := check_ok h
  rw [Int.toNat_natCast] at hf
  obtain ⟨a, k, rfl, m⟩ := (free_mem hn hc).1 (List.mem_of_getElem? hf.at_)
  have := m.1.1
  unfold takeA
  rw [if_neg (by omega), if_neg ho, Int.toNat_natCast, tgt_some hf (by show (k : Int) ≤ o + 10; omega)]
/-- Take's answers, each with what it stands for. -/
theorem tight_or (F : List Bk) (o : Int) : (∀ y ∈ F, y.o < o) ∨ ∃ i x, Tight F o i x := by
  have key : ∀ n, n ≤ F.length → ∃ b, Tg F o n b := by
    intro n
    induction n with
    | zero => exact fun _ => ⟨-1, Tg.start F o⟩
    | succ n ih =>
      intro hn
      obtain ⟨b, hb⟩ := ih (by omega)
      have hy := List.getElem?_eq_getElem (show n < F.length by omega)
      generalize F[n] = y at hy
      by_cases ho : y.o < o
      · exact ⟨b, hb.pass hy (.inl ho)⟩
      · rcases id hb with ⟨e, _⟩ | ⟨i, x, e, hi, ht⟩
        · exact ⟨n, hb.next hy (by omega) (.inl e)⟩
        · have hx := ht.at_
          rw [List.getElem?_take, if_pos hi] at hx
          by_cases hl : x.o ≤ y.o
          · exact ⟨b, hb.pass hy (.inr ⟨i, x, e, hx, hl⟩)⟩
          · exact ⟨n, hb.next hy (by omega) (.inr ⟨i, x, e, hx, by omega⟩)⟩
  obtain ⟨b, hb⟩ := key F.length (Nat.le_refl _)
  unfold Tg at hb
  rw [List.take_length] at hb
  rcases hb with ⟨_, h⟩ | ⟨i, x, _, _, h⟩
  · exact .inl h
  · exact .inr ⟨i, x, h⟩

end Bd
end Go.Proofs.Ytodimkkgmidgcab.PBuddy
