/-
  Room in halves of halves in plain words (no program in it): which blocks are right, which are free, which is taken and dropped, and what follows: KNOWLTON: what is taken and what is free are all places, each once, no two halves of one block are free side by side; what was taken and dropped is as if it never was. Conditions: there are at most 2^10 places.
-/
namespace Go.Proofs.Ytodimkkgmidgcab.PBuddy
namespace Bd

/-- A block: where it begins, and its order. -/
structure Bk where
  a : Int
  o : Int
deriving DecidableEq
def bk (a k : Nat) : Bk := ⟨a, k⟩
theorem bk_inj {a k b j : Nat} (h : bk a k = bk b j) : a = b ∧ k = j := by
  unfold bk at h
  injection h with h1 h2
  omega

/-! ### Multiples of a power of two -/
theorem gap {c a b : Nat} (ha : a % c = 0) (hb : b % c = 0) (h : a < b) : a + c ≤ b := by
  obtain ⟨m, rfl⟩ := Nat.dvd_of_mod_eq_zero ha
  obtain ⟨n, rfl⟩ := Nat.dvd_of_mod_eq_zero hb
  have hmn : m < n := Nat.lt_of_mul_lt_mul_left h
  have := Nat.mul_le_mul_left c hmn
  rw [Nat.mul_succ] at this
  exact this
theorem pow_mod {k j : Nat} (h : k ≤ j) : 2 ^ j % 2 ^ k = 0 := Nat.mod_eq_zero_of_dvd (Nat.pow_dvd_pow 2 h)
theorem mod_down {a k j : Nat} (h : k ≤ j) (ha : a % 2 ^ j = 0) : a % 2 ^ k = 0 :=
  Nat.mod_eq_zero_of_dvd (Nat.dvd_trans (Nat.pow_dvd_pow 2 h) (Nat.dvd_of_mod_eq_zero ha))
theorem mod_add {c a b : Nat} (ha : a % c = 0) (hb : b % c = 0) : (a + b) % c = 0 :=
  Nat.mod_eq_zero_of_dvd (Nat.dvd_add (Nat.dvd_of_mod_eq_zero ha) (Nat.dvd_of_mod_eq_zero hb))
theorem pow_pos' (k : Nat) : 0 < 2 ^ k := Nat.pow_pos (by omega)
/-- The beginning of the block of order k in which a place lies. -/
def base (p k : Nat) : Nat := p / 2 ^ k * 2 ^ k
theorem base_mod (p k : Nat) : base p k % 2 ^ k = 0 := Nat.mul_mod_left _ _
theorem base_le (p k : Nat) : base p k ≤ p := Nat.div_mul_le_self _ _
theorem base_lt (p k : Nat) : p < base p k + 2 ^ k := by
  have := Nat.lt_div_mul_add (a := p) (pow_pos' k)
  exact this
theorem base_of {p k a : Nat} (ha : a % 2 ^ k = 0) (h1 : a ≤ p) (h2 : p < a + 2 ^ k) : base p k = a := by
  have b1 := base_le p k
  have b2 := base_lt p k
  have b3 := base_mod p k
  rcases Nat.lt_trichotomy (base p k) a with h | h | h
  · have := gap b3 ha h; omega
  · exact h
  · have := gap ha b3 h; omega
theorem base_ge {p k a : Nat} (ha : a % 2 ^ k = 0) (h1 : a ≤ p) : a ≤ base p k := by
  have b2 := base_lt p k
  have b3 := base_mod p k
  rcases Nat.lt_or_ge (base p k) a with h | h
  · have := gap b3 ha h; omega
  · exact h
theorem base_up {p k j : Nat} (h : k ≤ j) : base (base p k) j = base p j := by
  refine base_of (base_mod p j) (base_ge (mod_down h (base_mod p j)) (base_le p j)) ?_
  have := base_le p k
  have := base_lt p j
  omega
theorem base_self {a k : Nat} (h : a % 2 ^ k = 0) : base a k = a := base_of h (Nat.le_refl _) (by have := pow_pos' k; omega)

/-! ### Free blocks, and the greatest ones -/
section free
variable (T : Nat → Prop) (N : Nat)
def Fr (a k : Nat) : Prop := k ≤ N ∧ a % 2 ^ k = 0 ∧ a + 2 ^ k ≤ 2 ^ N ∧ ∀ j, a ≤ j → j < a + 2 ^ k → ¬ T j
/-- Free, and within no greater one. -/
def Mx (a k : Nat) : Prop := Fr T N a k ∧ ¬ Fr T N (base a (k + 1)) (k + 1)
variable {T N}

theorem Fr.up {b j a k : Nat} (h : Fr T N b j) (hk : k < j) (h1 : b ≤ a) (h2 : a < b + 2 ^ j) : Fr T N (base a (k + 1)) (k + 1) := by
  obtain ⟨c1, c2, c3, c4⟩ := h
  have hk : k + 1 ≤ j := hk
  have b1 := base_ge (mod_down hk c2) h1
  have b2 := base_le a (k + 1)
  have b3 := gap (base_mod a (k + 1)) (mod_add (mod_down hk c2) (pow_mod hk)) (by omega)
  exact ⟨by omega, base_mod _ _, by omega, fun i i1 i2 => c4 i (by omega) (by omega)⟩
theorem Mx.ge {a k b j : Nat} (h : Mx T N a k) (hb : Fr T N b j) (h1 : b ≤ a) (h2 : a < b + 2 ^ j) : j ≤ k := by
  rcases Nat.lt_or_ge k j with h3 | h3
  · exact absurd (hb.up h3 h1 h2) h.2
  · exact h3
theorem Mx.meets {a k b j p : Nat} (h : Mx T N a k) (hb : Fr T N b j) (p1 : a ≤ p) (p2 : p < a + 2 ^ k) (p3 : b ≤ p) (p4 : p < b + 2 ^ j) : j ≤ k := by
  rcases Nat.lt_or_ge k j with h3 | h3
  · have e := base_of h.1.2.1 p1 p2
    have := base_ge (mod_down (Nat.le_of_lt h3) hb.2.1) p3
    exact absurd (hb.up h3 (a := a) (by omega) (by omega)) h.2
  · exact h3
theorem Mx.same {a k b j p : Nat} (h : Mx T N a k) (hb : Mx T N b j) (p1 : a ≤ p) (p2 : p < a + 2 ^ k) (p3 : b ≤ p) (p4 : p < b + 2 ^ j) : a = b ∧ k = j := by
  have h1 := h.meets hb.1 p1 p2 p3 p4
  have h2 := hb.meets h.1 p3 p4 p1 p2
  obtain rfl : k = j := by omega
  exact ⟨(base_of h.1.2.1 p1 p2).symm.trans (base_of hb.1.2.1 p3 p4), rfl⟩
theorem Mx.over {p : Nat} : ∀ (n k : Nat), N - k ≤ n → Fr T N (base p k) k → ∃ j, Mx T N (base p j) j
  | 0, k, hn, h => ⟨k, h, fun h2 => by have := h2.1; have := h.1; omega⟩
  | n + 1, k, hn, h => by
    by_cases h2 : Fr T N (base p (k + 1)) (k + 1)
    · exact Mx.over n (k + 1) (by omega) h2
    · exact ⟨k, h, by rw [base_up (Nat.le_succ k)]; exact h2⟩
theorem Mx.at_ {p : Nat} (hp : p < 2 ^ N) (hT : ¬ T p) : ∃ j, Mx T N (base p j) j := by
  refine Mx.over N 0 (by omega) ?_
  have e : base p 0 = p := by simp [base]
  rw [e]
  refine ⟨Nat.zero_le _, by simp [Nat.mod_one], by simp; omega, fun i i1 i2 => ?_⟩
  obtain rfl : i = p := by simp at i2; omega
  exact hT
/-- No two halves of one block are both greatest ones. -/
theorem Mx.halves {a b k : Nat} (h : Mx T N a k) (hb : Mx T N b k) (hne : a ≠ b) (he : base a (k + 1) = base b (k + 1)) : False := by
  refine h.2 ?_
  obtain ⟨a1, a2, a3, a4⟩ := h.1
  obtain ⟨b1, b2, b3, b4⟩ := hb.1
  have m := base_mod a (k + 1)
  have m' := mod_down (Nat.le_succ k) m
  have l1 := base_le a (k + 1)
  have l2 := base_lt a (k + 1)
  have l3 := base_le b (k + 1)
  have l4 := base_lt b (k + 1)
  rw [← he] at l3 l4
  have hp : 2 ^ (k + 1) = 2 ^ k + 2 ^ k := by rw [Nat.pow_succ]; omega
  generalize base a (k + 1) = c at *
  have g1 : a = c ∨ a = c + 2 ^ k := by
    rcases Nat.lt_or_ge c a with h | h
    · have g := gap m' a2 h
      rcases Nat.lt_or_ge (c + 2 ^ k) a with h' | h'
      · have := gap (mod_add m' (Nat.mod_self _)) a2 h'; omega
      · omega
    · omega
  have g2 : b = c ∨ b = c + 2 ^ k := by
    rcases Nat.lt_or_ge c b with h | h
    · have g := gap m' b2 h
      rcases Nat.lt_or_ge (c + 2 ^ k) b with h' | h'
      · have := gap (mod_add m' (Nat.mod_self _)) b2 h'; omega
      · omega
    · omega
  have hkN : k + 1 ≤ N := by
    rcases Nat.lt_or_ge k N with h | h
    · exact h
    · have := Nat.pow_le_pow_right (n := 2) (by omega) h
      have := pow_pos' k
      omega
  refine ⟨hkN, m, by omega, fun i i1 i2 => ?_⟩
  rcases g1 with rfl | rfl
  · rcases g2 with rfl | rfl
    · exact absurd rfl hne
    · rcases Nat.lt_or_ge i (a + 2 ^ k) with h | h
      · exact a4 i (by omega) h
      · exact b4 i h (by omega)
  · rcases g2 with rfl | rfl
    · rcases Nat.lt_or_ge i (b + 2 ^ k) with h | h
      · exact b4 i (by omega) h
      · exact a4 i h (by omega)
    · exact absurd rfl hne

/-- The greatest free blocks that begin ahead of a place, in order; the place is no inner one of such a block. -/
structure Upto (T : Nat → Prop) (N p : Nat) (L : List Bk) : Prop where
  le : p ≤ 2 ^ N
  sorted : L.Pairwise (fun x y => x.a < y.a)
  mem : ∀ x, x ∈ L ↔ ∃ a k, x = bk a k ∧ Mx T N a k ∧ a < p
  edge : p = 0 ∨ (0 < p ∧ T (p - 1)) ∨ ∃ a k, Mx T N a k ∧ a + 2 ^ k = p

theorem Upto.start : Upto T N 0 [] := ⟨Nat.zero_le _, .nil, fun x => ⟨fun h => by simp at h, fun ⟨a, k, _, _, h⟩ => by omega⟩, .inl rfl⟩
theorem Upto.taken {p : Nat} {L : List Bk} (h : Upto T N p L) (hp : p < 2 ^ N) (hT : T p) : Upto T N (p + 1) L := by
  refine ⟨hp, h.sorted, fun x => (h.mem x).trans ⟨fun ⟨a, k, e, m, l⟩ => ⟨a, k, e, m, by omega⟩, fun ⟨a, k, e, m, l⟩ => ⟨a, k, e, m, ?_⟩⟩, .inr (.inl ⟨by omega, by simpa using hT⟩)⟩
  rcases Nat.lt_or_ge a p with h1 | h1
  · exact h1
  · obtain rfl : a = p := by omega
    exact absurd hT (m.1.2.2.2 a (Nat.le_refl _) (by have := pow_pos' k; omega))
theorem Upto.takens {p : Nat} {L : List Bk} (h : Upto T N p L) : ∀ (n : Nat), p + n ≤ 2 ^ N → (∀ j, p ≤ j → j < p + n → T j) → Upto T N (p + n) L
  | 0, _, _ => h
  | n + 1, hn, hT => (h.takens n (by omega) (fun j j1 j2 => hT j j1 (by omega))).taken (by omega) (hT _ (by omega) (by omega))
theorem Upto.free {p k : Nat} {L : List Bk} (h : Upto T N p L) (m : Mx T N p k) : Upto T N (p + 2 ^ k) (L ++ [bk p k]) := by
  refine ⟨m.1.2.2.1, ?_, fun x => ?_, .inr (.inr ⟨p, k, m, rfl⟩)⟩
  · rw [List.pairwise_append]
    refine ⟨h.sorted, List.pairwise_singleton _ _, fun x hx y hy => ?_⟩
    obtain ⟨a, j, rfl, _, hl⟩ := (h.mem x).1 hx
    rw [List.mem_singleton.1 hy]
    show (a : Int) < (p : Int)
    omega
  · rw [List.mem_append, List.mem_singleton, h.mem x]
    refine ⟨?_, ?_⟩
    · rintro (⟨a, j, e, ma, hl⟩ | e)
      · exact ⟨a, j, e, ma, by have := pow_pos' k; omega⟩
      · exact ⟨p, k, e, m, by have := pow_pos' k; omega⟩
    · rintro ⟨a, j, e, ma, hl⟩
      rcases Nat.lt_or_ge a p with h1 | h1
      · exact .inl ⟨a, j, e, ma, h1⟩
      · obtain ⟨rfl, rfl⟩ := m.same ma (p := a) h1 hl (Nat.le_refl _) (by have := pow_pos' j; omega)
        exact .inr e
theorem Upto.first {p a k : Nat} {L : List Bk} (h : Upto T N p L) (m : Mx T N a k) (h1 : a ≤ p) (h2 : p < a + 2 ^ k) : a = p := by
  rcases Nat.lt_or_ge a p with h3 | h3
  · rcases h.edge with e | ⟨_, e⟩ | ⟨b, j, mb, e⟩
    · omega
    · exact absurd e (m.1.2.2.2 _ (by omega) (by omega))
    · have hj := pow_pos' j
      obtain ⟨rfl, rfl⟩ := m.same mb (p := p - 1) (by omega) (by omega) (by omega) (by omega)
      omega
  · omega
theorem sorted_unique : ∀ {L M : List Bk}, L.Pairwise (fun x y => x.a < y.a) → M.Pairwise (fun x y => x.a < y.a) → (∀ x, x ∈ L ↔ x ∈ M) → L = M
  | [], [], _, _, _ => rfl
  | [], y :: M, _, _, h => by have := (h y).2 (by simp); simp at this
  | x :: L, [], _, _, h => by have := (h x).1 (by simp); simp at this
  | x :: L, y :: M, hL, hM, h => by
    rw [List.pairwise_cons] at hL hM
    have e : x = y := by
      rcases List.mem_cons.1 ((h x).1 (by simp)) with e | e
      · exact e
      · rcases List.mem_cons.1 ((h y).2 (by simp)) with e' | e'
        · exact e'.symm
        · have := hM.1 x e; have := hL.1 y e'; omega
    subst e
    rw [sorted_unique hL.2 hM.2 fun z => ⟨fun hz => ?_, fun hz => ?_⟩]
    · rcases List.mem_cons.1 ((h z).1 (by simp [hz])) with e | e
      · subst e; have := hL.1 z hz; omega
      · exact e
    · rcases List.mem_cons.1 ((h z).2 (by simp [hz])) with e | e
      · subst e; have := hM.1 z hz; omega
      · exact e
theorem Upto.unique {p : Nat} {L M : List Bk} (h : Upto T N p L) (h' : Upto T N p M) : L = M := sorted_unique h.sorted h'.sorted fun x => (h.mem x).trans (h'.mem x).symm

/-! ### A gap filled with the greatest blocks -/
/-- The order of the greatest block from a place on that ends by e. -/
def gr (p e : Nat) : Nat := (List.range 12).findIdx (fun k => !decide (p % 2 ^ (k + 1) = 0 ∧ p + 2 ^ (k + 1) ≤ e))
theorem gr_of {p e k : Nat} (hk : k < 12) (h1 : ∀ j, j < k → p % 2 ^ (j + 1) = 0 ∧ p + 2 ^ (j + 1) ≤ e) (h2 : ¬ (p % 2 ^ (k + 1) = 0 ∧ p + 2 ^ (k + 1) ≤ e)) : gr p e = k := by
  unfold gr
  rw [List.findIdx_eq (by rw [List.length_range]; exact hk)]
  refine ⟨by rw [Bool.not_eq_true', decide_eq_false_iff_not, List.getElem_range]; exact h2, fun j hj => ?_⟩
  simpa using h1 j hj
def fillF : Nat → Nat → Nat → List Bk
  | 0, _, _ => []
  | f + 1, p, e => if p < e then bk p (gr p e) :: fillF f (p + 2 ^ gr p e) e else []
theorem fillF_more : ∀ (f p e : Nat), e - p ≤ f → fillF f p e = fillF (e - p) p e
  | 0, p, e, h => by rw [show e - p = 0 by omega]
  | f + 1, p, e, h => by
    by_cases hlt : p < e
    · obtain ⟨m, hm⟩ : ∃ m, e - p = m + 1 := ⟨e - p - 1, by omega⟩
      have := pow_pos' (gr p e)
      rw [hm, fillF, fillF, if_pos hlt, if_pos hlt, fillF_more f _ e (by omega), fillF_more m _ e (by omega)]
    · rw [fillF, if_neg hlt, show e - p = 0 by omega, fillF]
def fill (p e : Nat) : List Bk := fillF (e - p) p e
theorem fill_none {p e : Nat} (h : e ≤ p) : fill p e = [] := by unfold fill; rw [show e - p = 0 by omega]; rfl
theorem fill_some {p e : Nat} (h : p < e) : fill p e = bk p (gr p e) :: fill (p + 2 ^ gr p e) e := by
  have := pow_pos' (gr p e)
  obtain ⟨m, hm⟩ : ∃ m, e - p = m + 1 := ⟨e - p - 1, by omega⟩
  unfold fill
  rw [hm, fillF, if_pos h, fillF_more m _ e (by omega)]

theorem Upto.greedy {p e : Nat} {L : List Bk} (h : Upto T N p L) (hN : N ≤ 10) (hpe : p < e) (he : e ≤ 2 ^ N) (hT : T e ∨ e = 2 ^ N) (hf : ∀ j, p ≤ j → j < e → ¬ T j) : Mx T N p (gr p e) ∧ p + 2 ^ gr p e ≤ e := by
  obtain ⟨j, m⟩ := Mx.at_ (T := T) (N := N) (p := p) (by omega) (hf p (Nat.le_refl _) hpe)
  have eb := h.first m (base_le p j) (base_lt p j)
  rw [eb] at m
  obtain ⟨m1, m2, m3, m4⟩ := m.1
  have hle : p + 2 ^ j ≤ e := by
    rcases hT with hT | hT
    · rcases Nat.lt_or_ge e (p + 2 ^ j) with h | h
      · exact absurd hT (m4 e (by omega) h)
      · exact h
    · omega
  have hg : gr p e = j := by
    refine gr_of (by omega) (fun i hi => ⟨mod_down hi m2, ?_⟩) fun ⟨g1, g2⟩ => ?_
    · have := Nat.pow_le_pow_right (n := 2) (by omega) (show i + 1 ≤ j from hi)
      omega
    · refine m.2 ?_
      rw [base_self g1]
      refine ⟨?_, g1, by omega, fun i i1 i2 => hf i i1 (by omega)⟩
      rcases Nat.lt_or_ge N (j + 1) with h | h
      · have := Nat.pow_lt_pow_right (a := 2) (by omega) h
        omega
      · exact h
  rw [hg]
  exact ⟨m, hle⟩
theorem Upto.fills {e : Nat} (hN : N ≤ 10) (he : e ≤ 2 ^ N) (hT : T e ∨ e = 2 ^ N) : ∀ (n p : Nat) (L : List Bk), e - p ≤ n → Upto T N p L → p ≤ e → (∀ j, p ≤ j → j < e → ¬ T j) → Upto T N e (L ++ fill p e)
  | 0, p, L, hn, h, hpe, hf => by
    obtain rfl : p = e := by omega
    rw [fill_none (Nat.le_refl _), List.append_nil]
    exact h
  | n + 1, p, L, hn, h, hpe, hf => by
    rcases Nat.lt_or_ge p e with hlt | hge
    · obtain ⟨m, hle⟩ := h.greedy hN hlt he hT hf
      have := pow_pos' (gr p e)
      have r := Upto.fills hN he hT n _ _ (by omega) (h.free m) hle (fun j j1 j2 => hf j (by omega) j2)
      rw [fill_some hlt]
      simpa using r
    · obtain rfl : p = e := by omega
      rw [fill_none (Nat.le_refl _), List.append_nil]
      exact h
end free

end Bd
end Go.Proofs.Ytodimkkgmidgcab.PBuddy
