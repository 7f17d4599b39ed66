/-
  Room in halves of halves in plain words, fourth part: what a search by places finds: which places are taken, whether a list is right, what is free. Conditions: none.
-/
import Derived.Test.YtodimkkgmidgcabBuddyLaws
namespace Go.Proofs.Ytodimkkgmidgcab.PBuddy
namespace Bd

/-- Places, marked. -/
def pl (n : Nat) (f : Nat → Bool) : List Bool := (List.range n).map f
theorem pl_len (n : Nat) (f : Nat → Bool) : (pl n f).length = n := by simp [pl]
theorem pl_at {n p : Nat} (f : Nat → Bool) (h : p < n) : (pl n f)[p]? = some (f p) := by unfold pl; rw [List.getElem?_map, List.getElem?_range h]; rfl
theorem pl_congr {n : Nat} {f g : Nat → Bool} (h : ∀ p, p < n → f p = g p) : pl n f = pl n g := by
  unfold pl
  exact List.map_congr_left fun p hp => h p (List.mem_range.1 hp)
theorem pl_set {n p : Nat} (f g : Nat → Bool) (b : Bool) (hp : g p = b) (h : ∀ q, q ≠ p → g q = f q) : (pl n f).set p b = pl n g := by
  apply List.ext_getElem?
  intro q
  unfold pl
  rw [List.getElem?_set]
  simp only [List.length_map, List.length_range, List.getElem?_map]
  by_cases hq : q < n
  · rw [List.getElem?_range hq]
    by_cases e : p = q
    · subst e; simp [hq, hp]
    · simp only [if_neg e, Option.map_some, h q (fun x => e x.symm)]
  · rw [List.getElem?_eq_none (by simp; omega)]
    by_cases e : p = q
    · subst e; simp [hq]
    · simp [e]
/-- Taken by a block of Z, or one of the first i places from a on. -/
def mk (Z : List Bk) (a i p : Nat) : Bool := Z.any (cov p) || decide (a ≤ p ∧ p < a + i)
def tk (Z : List Bk) (p : Nat) : Bool := Z.any (cov p)
theorem mk_zero (Z : List Bk) (a p : Nat) : mk Z a 0 p = tk Z p := by
  unfold mk tk
  rw [decide_eq_false (by omega), Bool.or_false]
theorem mk_all (Z : List Bk) (a k p : Nat) : mk Z a (2 ^ k) p = tk (Z ++ [bk a k]) p := by
  unfold mk tk
  rw [List.any_append]
  simp only [List.any_cons, List.any_nil, Bool.or_false]
  congr 1
  by_cases h : cov p (bk a k) = true
  · rw [h, decide_eq_true (cov_bk.1 h)]
  · rw [Bool.eq_false_iff.2 h, decide_eq_false (fun g => h (cov_bk.2 g))]
theorem mk_here (Z : List Bk) (a i : Nat) : mk Z a i (a + i) = tk Z (a + i) := by
  unfold mk tk
  rw [decide_eq_false (by omega), Bool.or_false]
theorem mk_set (n : Nat) (Z : List Bk) (a i : Nat) : (pl n (mk Z a i)).set (a + i) true = pl n (mk Z a (i + 1)) := by
  refine pl_set _ _ _ ?_ fun q hq => ?_
  · unfold mk; rw [decide_eq_true (by omega), Bool.or_true]
  · unfold mk
    congr 1
    by_cases h : a ≤ q ∧ q < a + i
    · rw [decide_eq_true h, decide_eq_true (by omega)]
    · rw [decide_eq_false h, decide_eq_false (by omega)]
theorem tk_nil (n : Nat) : pl n (tk []) = List.replicate n false := by
  unfold pl tk
  simp only [List.any_nil]
  rw [List.map_const', List.length_range]
theorem tk_iff {N e : Nat} {Z : List Bk} (h : chk N e Z = true) (p : Nat) : tk Z p = true ↔ Tk Z p := by
  unfold tk Tk
  rw [List.any_eq_true]
  refine ⟨fun ⟨x, hx, hc⟩ => ?_, fun ⟨a, k, hx, h1, h2⟩ => ⟨_, hx, cov_bk.2 ⟨h1, h2⟩⟩⟩
  obtain ⟨a, k, rfl, _⟩ := chk_mem h x hx
  have := cov_bk.1 hc
  exact ⟨a, k, hx, this.1, this.2⟩
/-- The same as numbers. -/
def nm (l : List Bool) : List Int := l.map fun b => if b then 1 else 0
theorem nm_len (l : List Bool) : (nm l).length = l.length := by simp [nm]
theorem nm_at {l : List Bool} {p : Nat} {b : Bool} (h : l[p]? = some b) : (nm l)[p]? = some (if b then 1 else 0) := by unfold nm; rw [List.getElem?_map, h]; rfl
theorem nm_set (l : List Bool) (p : Nat) : (nm l).set p 1 = nm (l.set p true) := by unfold nm; rw [List.map_set]; rfl
theorem nm_nil (n : Nat) : nm (List.replicate n false) = List.replicate n 0 := by unfold nm; rw [List.map_replicate]; rfl

/-- How it stands as a list is looked through: what is looked at is right, and ends at e; last is where the last one begins. -/
structure Look (N : Nat) (X : List Bk) (i e : Nat) (last : Int) : Prop where
  le : i ≤ X.length
  rest : chk N 0 X = chk N e (X.drop i)
  front : chk N 0 (X.take i) = true
  ends : ∀ p, Tk (X.take i) p → p < e
  last_ : (e = 0 ∧ last = -1) ∨ ∃ b j, bk b j ∈ X.take i ∧ last = (b : Int) ∧ e = b + 2 ^ j
theorem Look.start (N : Nat) (X : List Bk) : Look N X 0 0 (-1) := ⟨Nat.zero_le _, by simp, by simp [chk], fun p h => absurd h (by simpa using Tk.nil p), .inl ⟨rfl, rfl⟩⟩
theorem drop_of {X : List Bk} {i : Nat} {x : Bk} (h : X[i]? = some x) : X.drop i = x :: X.drop (i + 1) := by
  obtain ⟨h1, h2⟩ := List.getElem?_eq_some_iff.1 h
  rw [List.drop_eq_getElem_cons h1, h2]
theorem chk_snoc {N a k : Nat} (hk : k ≤ N) (ha : a % 2 ^ k = 0) (hl : a + 2 ^ k ≤ 2 ^ N) : ∀ {Z : List Bk} {e : Nat}, chk N e Z = true → e ≤ a → (∀ p, Tk Z p → p < a) → chk N e (Z ++ [bk a k]) = true
  | [], e, _, he, _ => chk_cons.2 ⟨a, k, rfl, hk, ha, hl, he, rfl⟩
  | x :: r, e, h, he, hf => by
    obtain ⟨b, j, rfl, h2, h3, h4, h5, h6⟩ := chk_cons.1 h
    have hj := pow_pos' j
    have := hf (b + 2 ^ j - 1) (Tk.cons.2 (.inl ⟨by omega, by omega⟩))
    exact chk_cons.2 ⟨b, j, rfl, h2, h3, h4, h5, chk_snoc hk ha hl h6 (by omega) fun p hp => hf p (Tk.cons.2 (.inr hp))⟩
theorem Tk.snoc {a k : Nat} {Z : List Bk} {p : Nat} : Tk (Z ++ [bk a k]) p ↔ Tk Z p ∨ (a ≤ p ∧ p < a + 2 ^ k) := by
  refine ⟨?_, ?_⟩
  · rintro ⟨b, j, h, h1, h2⟩
    rcases List.mem_append.1 h with e | e
    · exact .inl ⟨b, j, e, h1, h2⟩
    · obtain ⟨rfl, rfl⟩ := bk_inj (List.mem_singleton.1 e); exact .inr ⟨h1, h2⟩
  · rintro (⟨b, j, h, h1, h2⟩ | ⟨h1, h2⟩)
    · exact ⟨b, j, by simp [h], h1, h2⟩
    · exact ⟨a, k, by simp, h1, h2⟩
/-- A block that is none, or none of these places, or not behind the last one: wrong. -/
theorem Look.wrong {N : Nat} {X : List Bk} {i e : Nat} {last : Int} {x : Bk} (h : Look N X i e last) (hx : X[i]? = some x) (hw : win N x = false ∨ x.a ≤ last) : chk N 0 X = false := by
  rw [h.rest, drop_of hx, chk]
  rcases hw with hw | hw
  · rw [hw]; rfl
  · rw [decide_eq_false, Bool.and_false, Bool.false_and]
    rcases h.last_ with ⟨rfl, rfl⟩ | ⟨b, j, _, rfl, rfl⟩
    · omega
    · have := pow_pos' j; omega
/-- A place of it that is taken: wrong. -/
theorem Look.meets {N : Nat} {X : List Bk} {i e : Nat} {last : Int} {a k q : Nat} (h : Look N X i e last) (hx : X[i]? = some (bk a k)) (hq : tk (X.take i) (a + q) = true) : chk N 0 X = false := by
  have := h.ends _ ((tk_iff h.front _).1 hq)
  rw [h.rest, drop_of hx, chk, decide_eq_false (p := (e : Int) ≤ (bk a k).a), Bool.and_false, Bool.false_and]
  show ¬ (e : Int) ≤ (a : Int)
  have hd : a < e := by omega
  omega
theorem Look.next {N : Nat} {X : List Bk} {i e : Nat} {last : Int} {a k : Nat} (h : Look N X i e last) (hx : X[i]? = some (bk a k)) (hk : k ≤ N) (ha : a % 2 ^ k = 0) (hl : a + 2 ^ k ≤ 2 ^ N) (hla : last < (a : Int)) (hf : ∀ q, q < 2 ^ k → tk (X.take i) (a + q) = false) :
    Look N X (i + 1) (a + 2 ^ k) (a : Int) := by
  obtain ⟨h1, h2⟩ := List.getElem?_eq_some_iff.1 hx
  have hp := pow_pos' k
  have hea : e ≤ a := by
    rcases h.last_ with ⟨rfl, rfl⟩ | ⟨b, j, hm, rfl, rfl⟩
    · omega
    · rcases Nat.lt_or_ge a (b + 2 ^ j) with g | g
      · have g1 := hf 0 hp
        have g2 : tk (X.take i) (a + 0) = true := (tk_iff h.front _).2 ⟨b, j, hm, by omega, by omega⟩
        rw [g1] at g2; cases g2
      · exact g
  have ht := take_snoc hx
  refine ⟨h1, ?_, ?_, fun p hp' => ?_, .inr ⟨a, k, ?_, rfl, rfl⟩⟩
  · rw [h.rest, drop_of hx, chk, win_bk.2 ⟨hk, ha, hl⟩, decide_eq_true (show (e : Int) ≤ (bk a k).a by show (e : Int) ≤ (a : Int); omega), en_bk]; rfl
  · rw [ht]
    exact chk_snoc hk ha hl h.front (Nat.zero_le _) fun p hp => Nat.lt_of_lt_of_le (h.ends p hp) hea
  · rw [ht, Tk.snoc] at hp'
    rcases hp' with g | ⟨_, g⟩
    · have := h.ends p g; omega
    · exact g
  · rw [ht]; simp
theorem Look.done {N : Nat} {X : List Bk} {e : Nat} {last : Int} (h : Look N X X.length e last) : chk N 0 X = true := by rw [h.rest]; simp [chk]
/-- It is one of these places, and its size divides it: a block. -/
theorem block_of {N : Nat} {x : Bk} (h1 : 0 ≤ x.o) (h2 : x.o ≤ (N : Int)) (h3 : 0 ≤ x.a) (h4 : x.a < 2 ^ N) (h5 : x.a % 2 ^ x.o.toNat = 0) : ∃ a k, x = bk a k ∧ k ≤ N ∧ a % 2 ^ k = 0 ∧ a + 2 ^ k ≤ 2 ^ N := by
  obtain ⟨xa, xo⟩ := x
  simp only at h1 h2 h3 h4 h5
  obtain ⟨a, rfl⟩ : ∃ a : Nat, xa = a := ⟨xa.toNat, by omega⟩
  obtain ⟨k, rfl⟩ : ∃ k : Nat, xo = k := ⟨xo.toNat, by omega⟩
  have hkN : k ≤ N := by omega
  have e1 := cast_pow k
  have e2 := cast_pow N
  rw [Int.toNat_natCast, ← e1] at h5
  have h5' : a % 2 ^ k = 0 := by
    have : ((a % 2 ^ k : Nat) : Int) = 0 := by rw [Int.natCast_emod]; exact h5
    omega
  have h4' : a < 2 ^ N := by omega
  exact ⟨a, k, rfl, hkN, h5', gap h5' (pow_mod hkN) h4'⟩
theorem win_no {N : Nat} {x : Bk} (h : x.o < 0 ∨ (N : Int) < x.o ∨ x.a < 0 ∨ 2 ^ N ≤ x.a ∨ x.a % 2 ^ x.o.toNat ≠ 0) : win N x = false := by
  rw [Bool.eq_false_iff]
  intro hw
  obtain ⟨a, k, rfl, h1, h2, h3⟩ := win_is hw
  have e1 := cast_pow k
  have e2 := cast_pow N
  have hp := pow_pos' k
  rcases h with h | h | h | h | h
  · have : (k : Int) < 0 := h; omega
  · have : (N : Int) < (k : Int) := h; omega
  · have : (a : Int) < 0 := h; omega
  · have : 2 ^ N ≤ (a : Int) := h; omega
  · apply h
    show (a : Int) % 2 ^ (k : Int).toNat = 0
    rw [Int.toNat_natCast, ← e1, ← Int.natCast_emod, h2]; rfl

/-- Are all places of the block of order o in which p lies free? -/
def isF (X : List Bk) (N p o : Nat) : Bool := decide (o ≤ N) && !((((pl (2 ^ N) (tk X)).drop (base p o)).take (2 ^ o)).contains true)
theorem base_fits {N p o : Nat} (hp : p < 2 ^ N) (ho : o ≤ N) : base p o + 2 ^ o ≤ 2 ^ N := gap (base_mod p o) (pow_mod ho) (by have := base_le p o; omega)
theorem isF_iff {X : List Bk} {N p o : Nat} (hc : chk N 0 X = true) (hp : p < 2 ^ N) : isF X N p o = true ↔ Fr (Tk X) N (base p o) o := by
  unfold isF
  rw [Bool.and_eq_true, decide_eq_true_eq, Bool.not_eq_true', Bool.eq_false_iff]
  refine ⟨fun ⟨h1, h2⟩ => ⟨h1, base_mod p o, base_fits hp h1, fun j j1 j2 ht => h2 ?_⟩, fun h => ⟨h.1, fun hq => ?_⟩⟩
  · rw [List.contains_iff_mem]
    have hj := base_fits hp h1
    refine List.mem_of_getElem? (i := j - base p o) ?_
    rw [List.getElem?_take, if_pos (by omega), List.getElem?_drop, pl_at _ (by omega), show base p o + (j - base p o) = j by omega, (tk_iff hc j).2 ht]
  · rw [List.contains_iff_mem] at hq
    obtain ⟨i, hi⟩ := List.getElem?_of_mem hq
    rw [List.getElem?_take] at hi
    split at hi
    · rename_i hlt
      rw [List.getElem?_drop] at hi
      have hj := base_fits hp h.1
      rw [pl_at _ (by omega)] at hi
      exact h.2.2.2 (base p o + i) (by omega) (by omega) ((tk_iff hc _).1 (Option.some.inj hi))
    · cases hi
theorem isF_zero {X : List Bk} {N p : Nat} (hc : chk N 0 X = true) (hp : p < 2 ^ N) (ht : tk X p = false) : Fr (Tk X) N (base p 0) 0 := by
  have e : base p 0 = p := by simp [base]
  rw [e]
  refine ⟨Nat.zero_le _, by simp [Nat.mod_one], by simp; omega, fun i i1 i2 hi => ?_⟩
  obtain rfl : i = p := by simp at i2; omega
  rw [(tk_iff hc i).2 hi] at ht
  cases ht
theorem isF_last {X : List Bk} {N p o : Nat} (hc : chk N 0 X = true) (hp : p < 2 ^ N) (h : Fr (Tk X) N (base p o) o) (hn : isF X N p (o + 1) = false) : Mx (Tk X) N (base p o) o := by
  refine ⟨h, fun g => ?_⟩
  rw [base_up (Nat.le_succ o)] at g
  rw [(isF_iff hc hp).2 g] at hn
  cases hn

end Bd
end Go.Proofs.Ytodimkkgmidgcab.PBuddy
