/-
  Room in halves of halves in plain words, third part: KNOWLTON: what is taken and what is free are all places, each once; no two halves of one block are free side by side; what was taken and dropped is as if it never was. Conditions: none but what Check asks.
-/
import Derived.Test.YtodimkkgmidgcabBuddyAns
namespace Go.Proofs.Ytodimkkgmidgcab.PBuddy
namespace Bd

/-! ### Taken and dropped -/
theorem ins_erase (X : List Bk) (b : Bk) : (ins X b).eraseIdx (idx X b.a) = X := by
  unfold ins
  have h := idx_le X b.a
  have hl : (X.take (idx X b.a)).length = idx X b.a := by rw [List.length_take]; omega
  rw [List.eraseIdx_append_of_length_le (by omega), hl, Nat.sub_self, List.eraseIdx_cons_zero, List.take_append_drop]
theorem ins_at (X : List Bk) (b : Bk) : (ins X b)[idx X b.a]? = some b := by
  unfold ins
  have h := idx_le X b.a
  rw [List.getElem?_append_right (by rw [List.length_take]; omega), List.length_take, Nat.min_eq_left h, Nat.sub_self]
  rfl
theorem ins_spot (X : List Bk) (b : Bk) : spot (ins X b) b.a = idx X b.a := by
  refine spot_of (ins_at X b) rfl fun j y hj hy => ?_
  have h := idx_le X b.a
  unfold ins at hy
  rw [List.getElem?_append_left (by rw [List.length_take]; omega), List.getElem?_take, if_pos hj] at hy
  unfold idx at hj
  have := List.not_of_lt_findIdx hj
  obtain ⟨h1, h2⟩ := List.getElem?_eq_some_iff.1 hy
  rw [h2] at this
  simp at this
  omega
theorem ins_len (X : List Bk) (b : Bk) : (ins X b).length = X.length + 1 := by
  unfold ins
  have h := idx_le X b.a
  simp
  omega

theorem take_back {N M : Int} {X Y : List Bk} {o a : Int} (h : takeA N X o = (M, Y, a, 0)) :
    M = N ∧ dropA N Y a = (N, X, 0) ∧ check N Y = 0 ∧ 0 ≤ o ∧ o ≤ 10 ∧ ∃ y ∈ free N.toNat X, y.a = a ∧ o ≤ y.o := by
  by_cases hc : check N X = 0
  · by_cases ho : o < 0 ∨ N < o
    · rw [takeA_arg hc ho] at h; injection h with _ h; injection h with _ h; injection h with _ h; cases h
    · rcases tight_or (free N.toNat X) o with hf | ⟨i, x, ht⟩
      · rw [takeA_full hc ho hf] at h; injection h with _ h; injection h with _ h; injection h with _ h; cases h
      · rw [takeA_ok hc ho ht] at h
        injection h with h1 h; injection h with h2 h; injection h with h3 h
        subst h1; subst h2; subst h3
        obtain ⟨n, rfl, hn, hk⟩ := check_ok hc
        rw [Int.toNat_natCast] at ht ⊢
        have hm := List.mem_of_getElem? ht.at_
        obtain ⟨b, k, rfl, m⟩ := (free_mem hn hk).1 hm
        have hb : o ≤ (k : Int) := ht.big
        obtain ⟨q, rfl⟩ : ∃ q : Nat, o = q := ⟨o.toNat, by omega⟩
        have hqk : q ≤ k := by omega
        obtain ⟨m1, m2, m3, m4⟩ := m.1
        have hp := Nat.pow_le_pow_right (n := 2) (by omega) hqk
        have hins : chk n 0 (ins X (bk b q)) = true := chk_ins (by omega) (mod_down hqk m2) (by omega) hk (Nat.zero_le _) fun j j1 j2 => m4 j j1 (by omega)
        have e : (⟨(bk b k).a, (q : Int)⟩ : Bk) = bk b q := rfl
        rw [e]
        have hcY : check (n : Int) (ins X (bk b q)) = 0 := by rw [check_of hn, if_pos hins]
        refine ⟨rfl, ?_, hcY, by omega, by omega, bk b k, hm, rfl, hb⟩
        have hs := ins_spot X (bk b q)
        have hl := ins_len X (bk b q)
        have hi := idx_le X (bk b q).a
        have er := ins_erase X (bk b q)
        unfold dropA
        rw [if_neg (by omega)]
        show (if spot (ins X (bk b q)) (bk b q).a = _ then _ else (_, (ins X (bk b q)).eraseIdx (spot (ins X (bk b q)) (bk b q).a), _)) = _
        rw [hs, if_neg (by omega), er]
  · rw [takeA_bad hc] at h
    injection h with _ h; injection h with _ h; injection h with _ h
    exact absurd h hc
/-- With an error there is nothing; full it is with no block so great. -/
theorem take_none {N M : Int} {X Y : List Bk} {o a : Int} {c : Nat} (h : takeA N X o = (M, Y, a, c)) (hc : c ≠ 0) : M = 0 ∧ Y = [] ∧ a = 0 ∧ c ≤ 8 ∧ (check N X ≠ 0 ∨ c ≠ 8 ∨ ∀ y ∈ free N.toNat X, y.o < o) := by
  by_cases hc0 : check N X = 0
  · by_cases ho : o < 0 ∨ N < o
    · rw [takeA_arg hc0 ho] at h
      injection h with h1 h; injection h with h2 h; injection h with h3 h
      exact ⟨h1.symm, h2.symm, h3.symm, by omega, .inr (.inl (by omega))⟩
    · rcases tight_or (free N.toNat X) o with hf | ⟨i, x, ht⟩
      · rw [takeA_full hc0 ho hf] at h
        injection h with h1 h; injection h with h2 h; injection h with h3 h
        exact ⟨h1.symm, h2.symm, h3.symm, by omega, .inr (.inr hf)⟩
      · rw [takeA_ok hc0 ho ht] at h
        injection h with h1 h; injection h with h2 h; injection h with h3 h
        exact absurd h.symm hc
  · rw [takeA_bad hc0] at h
    injection h with h1 h; injection h with h2 h; injection h with h3 h
    have := check_le N X
    exact ⟨h1.symm, h2.symm, h3.symm, by omega, .inl hc0⟩

/-! ### How many there are -/
theorem fill_len : ∀ (n p e : Nat), e - p ≤ n → (fill p e).length ≤ e - p
  | 0, p, e, h => by rw [fill_none (by omega)]; simp
  | n + 1, p, e, h => by
    rcases Nat.lt_or_ge p e with hlt | hge
    · have := pow_pos' (gr p e)
      have := fill_len n (p + 2 ^ gr p e) e (by omega)
      rw [fill_some hlt, List.length_cons]
      omega
    · rw [fill_none hge]; simp
theorem sorted_len : ∀ {L : List Bk} {lo hi : Nat}, L.Pairwise (fun x y => x.a < y.a) → (∀ x ∈ L, (lo : Int) ≤ x.a ∧ x.a < (hi : Int)) → L.length ≤ hi - lo
  | [], _, _, _, _ => by simp
  | x :: L, lo, hi, h, hm => by
    rw [List.pairwise_cons] at h
    have hx := hm x (by simp)
    have := sorted_len (L := L) (lo := x.a.toNat + 1) (hi := hi) h.2 (fun y hy => by have := h.1 y hy; have := hm y (by simp [hy]); omega)
    rw [List.length_cons]
    omega
theorem chk_len {N : Nat} {X : List Bk} (h : chk N 0 X = true) : X.length ≤ 2 ^ N := by
  refine sorted_len (lo := 0) (hi := 2 ^ N) (chk_sorted h) fun x hx => ?_
  obtain ⟨a, k, rfl, _, _, g, _⟩ := chk_mem h x hx
  have := pow_pos' k
  show (0 : Int) ≤ (a : Int) ∧ (a : Int) < ((2 ^ N : Nat) : Int)
  omega
theorem free_len {N : Nat} {X : List Bk} (hN : N ≤ 10) (h : chk N 0 X = true) : (free N X).length ≤ 2 ^ N := by
  refine sorted_len (lo := 0) (hi := 2 ^ N) (free_is hN h).sorted fun x hx => ?_
  obtain ⟨a, k, rfl, m⟩ := (free_mem hN h).1 hx
  have := pow_pos' k
  have := m.1.2.2.1
  show (0 : Int) ≤ (a : Int) ∧ (a : Int) < ((2 ^ N : Nat) : Int)
  omega
theorem pow_le {N : Nat} (h : N ≤ 10) : 2 ^ N ≤ 1024 := Nat.pow_le_pow_right (n := 2) (by omega) h

/-! ### Each place once -/
def cov (p : Nat) (x : Bk) : Bool := decide (x.a ≤ (p : Int) ∧ (p : Int) < x.a + 2 ^ x.o.toNat)
theorem cov_bk {p a k : Nat} : cov p (bk a k) = true ↔ a ≤ p ∧ p < a + 2 ^ k := by
  unfold cov bk
  have := cast_pow k
  simp only [decide_eq_true_eq, Int.toNat_natCast]
  omega
theorem count_one {p : Nat} : ∀ {L : List Bk}, L.Pairwise (fun x y => ¬ (cov p x = true ∧ cov p y = true)) → ∀ x ∈ L, cov p x = true → L.countP (cov p) = 1
  | [], _, x, hx, _ => by simp at hx
  | y :: L, h, x, hx, hc => by
    rw [List.pairwise_cons] at h
    by_cases hy : cov p y = true
    · have h0 : L.countP (cov p) = 0 := by
        rw [List.countP_eq_zero]
        exact fun z hz hz2 => h.1 z hz ⟨hy, hz2⟩
      rw [List.countP_cons, h0, if_pos hy]
    · rcases List.mem_cons.1 hx with rfl | hx
      · exact absurd hc hy
      · rw [List.countP_cons, count_one h.2 x hx hc, if_neg hy]
theorem chk_apart {N p : Nat} : ∀ {X : List Bk} {e : Nat}, chk N e X = true → X.Pairwise (fun x y => ¬ (cov p x = true ∧ cov p y = true))
  | [], _, _ => .nil
  | y :: r, e, h => by
    obtain ⟨a, k, rfl, h2, h3, h4, h5, h6⟩ := chk_cons.1 h
    refine List.pairwise_cons.2 ⟨fun x hx ⟨g1, g2⟩ => ?_, chk_apart h6⟩
    obtain ⟨b, j, rfl, _, _, _, g⟩ := chk_mem h6 x hx
    have := cov_bk.1 g1
    have := cov_bk.1 g2
    omega
theorem free_apart {N p : Nat} {X : List Bk} (hN : N ≤ 10) (h : chk N 0 X = true) : (free N X).Pairwise (fun x y => ¬ (cov p x = true ∧ cov p y = true)) := by
  refine List.Pairwise.imp_of_mem ?_ (free_is hN h).sorted
  rintro x y hx hy hlt ⟨g1, g2⟩
  obtain ⟨a, k, rfl, m1⟩ := (free_mem hN h).1 hx
  obtain ⟨b, j, rfl, m2⟩ := (free_mem hN h).1 hy
  have c1 := cov_bk.1 g1
  have c2 := cov_bk.1 g2
  obtain ⟨rfl, rfl⟩ := m1.same m2 c1.1 c1.2 c2.1 c2.2
  omega
theorem whole {N p : Nat} {X : List Bk} (hN : N ≤ 10) (h : chk N 0 X = true) (hp : p < 2 ^ N) : (X ++ free N X).countP (cov p) = 1 := by
  rw [List.countP_append]
  by_cases ht : Tk X p
  · obtain ⟨a, k, hx, h1, h2⟩ := ht
    rw [count_one (chk_apart h) _ hx (cov_bk.2 ⟨h1, h2⟩)]
    have : (free N X).countP (cov p) = 0 := by
      rw [List.countP_eq_zero]
      intro y hy hc
      obtain ⟨b, j, rfl, m⟩ := (free_mem hN h).1 hy
      have := cov_bk.1 hc
      exact m.1.2.2.2 p this.1 this.2 ⟨a, k, hx, h1, h2⟩
    omega
  · have h0 : X.countP (cov p) = 0 := by
      rw [List.countP_eq_zero]
      intro y hy hc
      obtain ⟨a, k, rfl, _⟩ := chk_mem h y hy
      have := cov_bk.1 hc
      exact ht ⟨a, k, hy, this.1, this.2⟩
    obtain ⟨j, m⟩ := Mx.at_ hp ht
    rw [h0, count_one (free_apart hN h) _ ((free_mem hN h).2 ⟨_, _, rfl, m⟩) (cov_bk.2 ⟨base_le p j, base_lt p j⟩)]
theorem no_halves {N a b k : Nat} {X : List Bk} (hN : N ≤ 10) (h : chk N 0 X = true) (ha : bk a k ∈ free N X) (hb : bk b k ∈ free N X) (hne : a ≠ b) : a ^^^ b ≠ 2 ^ k := by
  intro hx
  obtain ⟨a', k', e1, m1⟩ := (free_mem hN h).1 ha
  obtain ⟨b', j', e2, m2⟩ := (free_mem hN h).1 hb
  obtain ⟨rfl, rfl⟩ := bk_inj e1
  obtain ⟨rfl, rfl⟩ := bk_inj e2
  refine m1.halves m2 hne ?_
  unfold base
  have h1 : (a ^^^ b) / 2 ^ (k + 1) = a / 2 ^ (k + 1) ^^^ b / 2 ^ (k + 1) := Nat.xor_div_two_pow
  rw [hx, Nat.div_eq_of_lt (Nat.pow_lt_pow_right (by omega) (by omega))] at h1
  generalize a / 2 ^ (k + 1) = u at *
  generalize b / 2 ^ (k + 1) = v at *
  have h2 : u = v := by
    apply Nat.eq_of_testBit_eq
    intro i
    have h3 := congrArg (fun z => Nat.testBit z i) h1
    simp only [Nat.zero_testBit, Nat.testBit_xor] at h3
    revert h3
    cases u.testBit i <;> cases v.testBit i <;> simp
  rw [h2]

/-- How often each place is in a block of Z; the block x counts up to its i-th place. -/
def cnt (n : Nat) (Z : List Bk) : List Int := (List.range n).map fun p => (Z.countP (cov p) : Int)
def cntI (n : Nat) (Z : List Bk) (a i : Nat) : List Int := (List.range n).map fun p => (Z.countP (cov p) : Int) + if a ≤ p ∧ p < a + i then 1 else 0
theorem cnt_nil (n : Nat) : cnt n [] = List.replicate n 0 := by
  unfold cnt
  simp only [List.countP_nil]
  rw [List.map_const', List.length_range]
  rfl
theorem cntI_zero (n : Nat) (Z : List Bk) (a : Nat) : cntI n Z a 0 = cnt n Z := by
  unfold cntI cnt
  apply List.map_congr_left
  intro p _
  rw [if_neg (by omega), Int.add_zero]
theorem cntI_all (n : Nat) (Z : List Bk) (a k : Nat) : cntI n Z a (2 ^ k) = cnt n (Z ++ [bk a k]) := by
  unfold cntI cnt
  apply List.map_congr_left
  intro p _
  rw [List.countP_append, List.countP_singleton]
  by_cases h : cov p (bk a k) = true
  · rw [if_pos h, if_pos (cov_bk.1 h)]; rfl
  · rw [if_neg h, if_neg (fun g => h (cov_bk.2 g))]; rfl
theorem cntI_len (n : Nat) (Z : List Bk) (a i : Nat) : (cntI n Z a i).length = n := by simp [cntI]
theorem cnt_len (n : Nat) (Z : List Bk) : (cnt n Z).length = n := by simp [cnt]
theorem cntI_at {n : Nat} {Z : List Bk} {a i : Nat} (h : a + i < n) : (cntI n Z a i)[a + i]? = some (Z.countP (cov (a + i)) : Int) := by
  unfold cntI
  rw [List.getElem?_map, List.getElem?_range h]
  simp
theorem cntI_set {n : Nat} {Z : List Bk} {a i : Nat} : (cntI n Z a i).set (a + i) ((Z.countP (cov (a + i)) : Int) + 1) = cntI n Z a (i + 1) := by
  apply List.ext_getElem?
  intro p
  unfold cntI
  rw [List.getElem?_set]
  simp only [List.length_map, List.length_range, List.getElem?_map]
  by_cases hp : p < n
  · rw [List.getElem?_range hp]
    by_cases e : a + i = p
    · subst e
      simp [hp]
    · simp only [if_neg e, Option.map_some]
      by_cases h1 : a ≤ p ∧ p < a + i
      · rw [if_pos h1, if_pos (by omega)]
      · rw [if_neg h1, if_neg (by omega)]
  · rw [List.getElem?_eq_none (by simp; omega)]
    by_cases e : a + i = p
    · subst e; simp [hp]
    · simp [e]
theorem cnt_whole {N : Nat} {X : List Bk} (hN : N ≤ 10) (h : chk N 0 X = true) : cnt (2 ^ N) (X ++ free N X) = List.replicate (2 ^ N) 1 := by
  unfold cnt
  have e : List.replicate (2 ^ N) (1 : Int) = (List.range (2 ^ N)).map (fun _ => 1) := by rw [List.map_const', List.length_range]
  rw [e]
  apply List.map_congr_left
  intro p hp
  rw [whole hN h (List.mem_range.1 hp)]
  rfl

end Bd
end Go.Proofs.Ytodimkkgmidgcab.PBuddy
