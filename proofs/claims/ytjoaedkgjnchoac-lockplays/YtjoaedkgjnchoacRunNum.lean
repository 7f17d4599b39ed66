/-
  Runs in plain words (no program in it): what is wrong with one; what has ended; who clashes with whom; the edges; at which places a transaction's operations stand; when two runs are like each other; of whom one reads, and three kinds of runs. And what follows: strict runs are cascadeless, these recoverable (HADZILACOS); neighbours of unlike transactions that do not clash may change places. No conditions.
-/
import Derived.Test.YtjoaedkgjnchoacGraphNum
namespace Go.Proofs.Ytjoaedkgjnchoac.PRun
open PGraph
namespace Rn

/-- An operation: whose, of which kind, at which item. -/
structure Op where
  x : Int
  k : Int
  i : Int
deriving DecidableEq, Inhabited

/-! ### What is wrong with a run -/
def ok1 (o : Op) : Int :=
  if o.x < 0 ∨ 11 < o.x ∨ o.i < 0 ∨ 19 < o.i then 1
  else if o.k < 1 ∨ 4 < o.k ∨ (2 < o.k ∧ o.i ≠ 0) then 4 else 0
/-- What a transaction has ended by: 3, 4; 0: it has not. -/
def ends : List Op → Nat → Int
  | [], _ => 0
  | o :: r, t => if ends r t ≠ 0 then ends r t else if (o.k = 3 ∨ o.k = 4) ∧ o.x = t then o.k else 0
/-- The same from behind: what an operation more makes of it. -/
def fin (e : Int) (o : Op) (t : Nat) : Int := if (o.k = 3 ∨ o.k = 4) ∧ o.x = t then o.k else e
theorem ends_snoc (p : List Op) (o : Op) (t : Nat) : ends (p ++ [o]) t = fin (ends p t) o t := by
  induction p with
  | nil => simp [ends, fin]
  | cons a p ih =>
    simp only [List.cons_append, ends, ih]
    unfold fin
    split
    · rename_i h
      have : o.k ≠ 0 := by omega
      simp [this]
    · rfl
theorem ends_mem {p : List Op} {t : Nat} {c : Int} (h : ends p t = c) (hc : c ≠ 0) : ∃ o ∈ p, o.k = c ∧ o.x = t ∧ (c = 3 ∨ c = 4) := by
  induction p with
  | nil => simp [ends] at h; omega
  | cons a p ih =>
    simp only [ends] at h
    split at h
    · obtain ⟨o, ho, r⟩ := ih h
      exact ⟨o, .tail _ ho, r⟩
    · clear ih
      split at h
      · rename_i h1 h2
        exact ⟨a, .head _, h, h2.2, by omega⟩
      · omega
theorem ends_zero {p : List Op} {t : Nat} : ends p t = 0 ↔ ∀ o ∈ p, o.x = t → ¬ (o.k = 3 ∨ o.k = 4) := by
  induction p with
  | nil => simp [ends]
  | cons a p ih =>
    simp only [ends, List.forall_mem_cons]
    constructor
    · intro h
      split at h
      · rename_i h1; exact absurd h h1
      · rename_i h1
        have h1 : ends p t = 0 := Classical.not_not.1 h1
        refine ⟨fun hx hk => ?_, ih.1 h1⟩
        rw [if_pos ⟨hk, hx⟩] at h
        omega
    · intro ⟨ha, hp⟩
      rw [if_neg (not_not_intro (ih.2 hp)), if_neg (fun hk => ha hk.2 hk.1)]

def opErr (p : List Op) (o : Op) : Int := if ok1 o ≠ 0 then ok1 o else if ends p o.x.toNat ≠ 0 then 4 else 0
def firstErr : List Op → List Op → Int
  | _, [] => 0
  | p, o :: r => if opErr p o ≠ 0 then opErr p o else firstErr (p ++ [o]) r
def check (l : List Op) : Int := if 200 < l.length then 2 else firstErr [] l
/-- All operations up to a place are right. -/
def Fine (l : List Op) (k : Nat) : Prop := ∀ j o, j < k → l[j]? = some o → opErr (l.take j) o = 0
theorem Fine.none (l : List Op) : Fine l 0 := fun j o h => by omega
theorem Fine.next {l : List Op} {k : Nat} {o : Op} (h : Fine l k) (ho : l[k]? = some o) (he : opErr (l.take k) o = 0) : Fine l (k + 1) := fun j p hj hp => by
  by_cases e : j = k
  · subst e; rw [ho] at hp; injection hp with hp; rw [← hp]; exact he
  · exact h j p (by omega) hp
theorem firstErr_skip : ∀ (k : Nat) (p r : List Op), (∀ j o, j < k → r[j]? = some o → opErr (p ++ r.take j) o = 0) → k ≤ r.length → firstErr p r = firstErr (p ++ r.take k) (r.drop k)
  | 0, p, r, _, _ => by simp
  | k + 1, p, [], _, h => by simp at h
  | k + 1, p, o :: r, h, hl => by
    have h0 := h 0 o (by omega) rfl
    simp only [List.take_zero, List.append_nil] at h0
    have := firstErr_skip k (p ++ [o]) r (fun j q hj hq => by
      have := h (j + 1) q (by omega) hq
      simpa using this) (by simpa using hl)
    simp only [firstErr, h0, ne_eq, not_true, if_false, this]
    simp
theorem check_large {l : List Op} (h : 200 < l.length) : check l = 2 := by unfold check; rw [if_pos h]
theorem check_bad {l : List Op} {k : Nat} {o : Op} (hl : ¬ 200 < l.length) (h : Fine l k) (ho : l[k]? = some o) (he : opErr (l.take k) o ≠ 0) : check l = opErr (l.take k) o := by
  obtain ⟨hk, h1⟩ := List.getElem?_eq_some_iff.1 ho
  unfold check
  rw [if_neg hl, firstErr_skip k [] l (fun j q hj hq => by simpa using h j q hj hq) (by omega), List.drop_eq_getElem_cons hk, h1]
  simp only [List.nil_append, firstErr]
  rw [if_pos he]
theorem check_good {l : List Op} (hl : ¬ 200 < l.length) (h : Fine l l.length) : check l = 0 := by
  unfold check
  rw [if_neg hl, firstErr_skip l.length [] l (fun j q hj hq => by simpa using h j q hj hq) (Nat.le_refl _)]
  simp [firstErr]
theorem firstErr_le : ∀ (r p : List Op), 0 ≤ firstErr p r ∧ firstErr p r ≤ 4
  | [], _ => by simp [firstErr]
  | o :: r, p => by
    simp only [firstErr]
    have : 0 ≤ opErr p o ∧ opErr p o ≤ 4 := by
      unfold opErr ok1
      repeat' split
      all_goals omega
    split
    · exact this
    · exact firstErr_le r _
theorem check_le (l : List Op) : 0 ≤ check l ∧ check l ≤ 4 := by
  unfold check
  split
  · omega
  · exact firstErr_le _ _
theorem firstErr_fine : ∀ (r p : List Op), firstErr p r = 0 → ∀ j o, r[j]? = some o → opErr (p ++ r.take j) o = 0
  | [], _, _, j, o, h => by simp at h
  | a :: r, p, h, j, o, ho => by
    simp only [firstErr] at h
    split at h
    · rename_i h1; exact absurd h h1
    · rename_i h1
      cases j with
      | zero => simp at ho; subst ho; simpa using h1
      | succ j =>
        have := firstErr_fine r (p ++ [a]) h j o (by simpa using ho)
        simpa using this
theorem check_zero {l : List Op} (h : check l = 0) : l.length ≤ 200 ∧ Fine l l.length := by
  unfold check at h
  split at h
  · cases h
  · exact ⟨by omega, fun j o _ ho => by simpa using firstErr_fine l [] h j o ho⟩
/-- A right operation. -/
structure Good (o : Op) : Prop where
  x0 : 0 ≤ o.x
  x1 : o.x < 12
  i0 : 0 ≤ o.i
  i1 : o.i < 20
  k0 : 1 ≤ o.k
  k1 : o.k ≤ 4
  ki : 2 < o.k → o.i = 0
theorem ok1_good {o : Op} (h : ok1 o = 0) : Good o := by
  unfold ok1 at h
  split at h
  · cases h
  split at h
  · cases h
  · constructor <;> omega
theorem good_ok1 {o : Op} (h : Good o) : ok1 o = 0 := by
  obtain ⟨h1, h2, h3, h4, h5, h6, h7⟩ := h
  unfold ok1
  rw [if_neg (by omega), if_neg (by omega)]
theorem opErr_zero {p : List Op} {o : Op} : opErr p o = 0 ↔ Good o ∧ ends p o.x.toNat = 0 := by
  unfold opErr
  constructor
  · intro h
    split at h
    · rename_i h1; exact absurd h h1
    · rename_i h1
      refine ⟨ok1_good (Classical.not_not.1 h1), ?_⟩
      split at h
      · cases h
      · rename_i h2; exact Classical.not_not.1 h2
  · intro ⟨h1, h2⟩
    rw [if_neg (not_not_intro (good_ok1 h1)), if_neg (not_not_intro h2)]
theorem good_at {l : List Op} (h : check l = 0) {k : Nat} {o : Op} (ho : l[k]? = some o) : Good o :=
  (opErr_zero.1 ((check_zero h).2 k o (List.getElem?_eq_some_iff.1 ho).1 ho)).1
theorem good_mem {l : List Op} (h : check l = 0) {o : Op} (ho : o ∈ l) : Good o := by
  obtain ⟨k, hk⟩ := List.getElem?_of_mem ho
  exact good_at h hk
/-- Nothing of a transaction stands behind its end. -/
theorem live_at {l : List Op} (h : check l = 0) {k : Nat} {o : Op} (ho : l[k]? = some o) : ends (l.take k) o.x.toNat = 0 :=
  (opErr_zero.1 ((check_zero h).2 k o (List.getElem?_eq_some_iff.1 ho).1 ho)).2
/-- A run that is right, by its operations: each is right, and behind an end of its transaction there is none. -/
theorem check_of {l : List Op} (hl : l.length ≤ 200) (h : ∀ k o, l[k]? = some o → Good o ∧ ends (l.take k) o.x.toNat = 0) : check l = 0 :=
  check_good (by omega) fun j o _ ho => opErr_zero.2 (h j o ho)

def com (p : List Op) (t : Nat) : Bool := decide (ends p t = 3)
theorem take_snoc {l : List Op} {k : Nat} {o : Op} (ho : l[k]? = some o) : l.take (k + 1) = l.take k ++ [o] := by
  obtain ⟨h1, h2⟩ := List.getElem?_eq_some_iff.1 ho
  rw [List.take_succ_eq_append_getElem h1, h2]
/-- What has ended stays so. -/
theorem ends_more {l : List Op} (h : check l = 0) {t c : Nat} {i j : Nat} (hij : i ≤ j) (he : ends (l.take i) t = c) (hc : c ≠ 0) : ends (l.take j) t = c := by
  induction hij with
  | refl => exact he
  | @step j hj ih =>
    cases ho : l[j]? with
    | none =>
      have := List.getElem?_eq_none_iff.1 ho
      rw [List.take_of_length_le (by omega)]
      rw [List.take_of_length_le (by omega)] at ih
      exact ih
    | some o =>
      rw [take_snoc ho, ends_snoc]
      unfold fin
      split
      · rename_i hk
        have hl := live_at h ho
        have e : o.x.toNat = t := by omega
        rw [e, ih] at hl
        omega
      · exact ih

/-! ### Clashes, edges -/
def item (o : Op) : Bool := decide (o.k = 1) || decide (o.k = 2)
def clash (a b : Op) : Bool := decide (a.x ≠ b.x) && decide (a.i = b.i) && item a && item b && (decide (a.k = 2) || decide (b.k = 2))
theorem clash_ne {a b : Op} (h : clash a b = true) : a.x ≠ b.x := by simp [clash] at h; exact h.1.1.1.1
theorem clash_comm (a b : Op) : clash a b = clash b a := by
  unfold clash
  rw [show decide (a.x ≠ b.x) = decide (b.x ≠ a.x) by simp [eq_comm], show decide (a.i = b.i) = decide (b.i = a.i) by simp [eq_comm]]
  cases item a <;> cases item b <;> simp [Bool.or_comm]
/-- An operation of i clashes with a later one of j. -/
def Ahead (l : List Op) (i j : Nat) : Prop := ∃ (a b : Nat) (p q : Op), a < b ∧ l[a]? = some p ∧ l[b]? = some q ∧ clash p q = true ∧ p.x = i ∧ q.x = j
/-- Do the operations at two places lay an edge from i to j? -/
def hit (l : List Op) (a b i j : Nat) : Bool := match l[a]?, l[b]? with
  | some p, some q => clash p q && (decide (p.x = i) && decide (q.x = j))
  | _, _ => false
theorem hit_iff {l : List Op} {a b i j : Nat} : hit l a b i j = true ↔ ∃ p q, l[a]? = some p ∧ l[b]? = some q ∧ clash p q = true ∧ p.x = i ∧ q.x = j := by
  unfold hit
  split
  · rename_i p q h1 h2
    simp only [Bool.and_eq_true, decide_eq_true_eq, h1, h2, Option.some.injEq]
    constructor
    · intro ⟨h3, h4, h5⟩; exact ⟨p, q, rfl, rfl, h3, h4, h5⟩
    · rintro ⟨p', q', rfl, rfl, h3, h4, h5⟩; exact ⟨h3, h4, h5⟩
  · rename_i hn
    constructor
    · intro h; cases h
    · rintro ⟨p, q, h1, h2, _⟩; exact absurd h2 (hn p q h1)
def ahead (l : List Op) (i j : Nat) : Bool := (List.range l.length).any fun b => (List.range b).any fun a => hit l a b i j
theorem ahead_iff {l : List Op} {i j : Nat} : ahead l i j = true ↔ Ahead l i j := by
  simp only [ahead, List.any_eq_true, List.mem_range, hit_iff]
  constructor
  · rintro ⟨b, hb, a, ha, p, q, r⟩; exact ⟨a, b, p, q, ha, r⟩
  · rintro ⟨a, b, p, q, ha, r1, r2, r⟩; exact ⟨b, (List.getElem?_eq_some_iff.1 r2).1, a, ha, p, q, r1, r2, r⟩
theorem ahead_ne {l : List Op} {i j : Nat} (h : ahead l i j = true) : i ≠ j := by
  obtain ⟨a, b, p, q, _, _, _, hc, h1, h2⟩ := ahead_iff.1 h
  have := clash_ne hc
  omega
/-- The pairs that are known when the first b operations, and a of those ahead of the b-th one, are through. -/
def AheadTo (l : List Op) (b a : Nat) (i j : Nat) : Prop := ∃ (a' b' : Nat) (p q : Op), a' < b' ∧ (b' < b ∨ (b' = b ∧ a' < a)) ∧ l[a']? = some p ∧ l[b']? = some q ∧ clash p q = true ∧ p.x = i ∧ q.x = j
def aheadTo (l : List Op) (b a : Nat) (i j : Nat) : Bool := (List.range l.length).any fun b' => (List.range b').any fun a' => decide (b' < b ∨ (b' = b ∧ a' < a)) && hit l a' b' i j
theorem aheadTo_iff {l : List Op} {b a i j : Nat} : aheadTo l b a i j = true ↔ AheadTo l b a i j := by
  simp only [aheadTo, List.any_eq_true, List.mem_range, hit_iff, Bool.and_eq_true, decide_eq_true_eq]
  constructor
  · rintro ⟨b', hb, a', ha, h, p, q, r⟩; exact ⟨a', b', p, q, ha, h, r⟩
  · rintro ⟨a', b', p, q, ha, h, r1, r2, r⟩; exact ⟨b', (List.getElem?_eq_some_iff.1 r2).1, a', ha, h, p, q, r1, r2, r⟩
theorem aheadTo_start (l : List Op) (i j : Nat) : aheadTo l 0 0 i j = false := by
  apply Bool.eq_false_iff.2
  rw [Ne, aheadTo_iff]
  rintro ⟨a', b', p, q, h, h', _⟩
  omega
theorem aheadTo_round (l : List Op) (b i j : Nat) : aheadTo l b b i j = aheadTo l (b + 1) 0 i j := by
  apply Bool.eq_iff_iff.2
  rw [aheadTo_iff, aheadTo_iff]
  constructor
  · rintro ⟨a', b', p, q, h, h', r⟩; exact ⟨a', b', p, q, h, by omega, r⟩
  · rintro ⟨a', b', p, q, h, h', r⟩; exact ⟨a', b', p, q, h, by omega, r⟩
theorem aheadTo_end (l : List Op) (i j : Nat) : aheadTo l l.length 0 i j = ahead l i j := by
  apply Bool.eq_iff_iff.2
  rw [aheadTo_iff, ahead_iff]
  constructor
  · rintro ⟨a', b', p, q, h, _, r⟩; exact ⟨a', b', p, q, h, r⟩
  · rintro ⟨a', b', p, q, h, r1, r2, r⟩
    exact ⟨a', b', p, q, h, .inl (List.getElem?_eq_some_iff.1 r2).1, r1, r2, r⟩
theorem aheadTo_next {l : List Op} {b a : Nat} {p q : Op} (hab : a < b) (hp : l[a]? = some p) (hq : l[b]? = some q) (i j : Nat) :
    aheadTo l b (a + 1) i j = (aheadTo l b a i j || (clash p q && (decide (p.x = i) && decide (q.x = j)))) := by
  apply Bool.eq_iff_iff.2
  simp only [aheadTo_iff, Bool.or_eq_true, Bool.and_eq_true, decide_eq_true_eq]
  constructor
  · rintro ⟨a', b', p', q', h, h', r1, r2, r3, r4, r5⟩
    by_cases e : b' = b ∧ a' = a
    · obtain ⟨rfl, rfl⟩ := e
      rw [hp] at r1; rw [hq] at r2
      injection r1 with r1; injection r2 with r2
      subst r1; subst r2
      exact .inr ⟨r3, r4, r5⟩
    · exact .inl ⟨a', b', p', q', h, by omega, r1, r2, r3, r4, r5⟩
  · rintro (⟨a', b', p', q', h, h', r⟩ | ⟨r3, r4, r5⟩)
    · exact ⟨a', b', p', q', h, by omega, r⟩
    · exact ⟨a, b, p, q, hab, by omega, hp, hq, r3, r4, r5⟩

def edge (l : List Op) (i j : Nat) : Bool := ahead l i j && com l i && com l j
/-- The edges that are told by the places (i, j). -/
def edgesTo (l : List Op) (i j : Nat) : List Gr.Ed := (List.range i).flatMap (fun a => ((List.range 12).filter (edge l a)).map (Gr.ed a)) ++ ((List.range j).filter (edge l i)).map (Gr.ed i)
def edges (l : List Op) : List Gr.Ed := edgesTo l 12 0
theorem edgesTo_start (l : List Op) : edgesTo l 0 0 = [] := by simp [edgesTo]
theorem edgesTo_round (l : List Op) (i : Nat) : edgesTo l i 12 = edgesTo l (i + 1) 0 := by
  simp [edgesTo, List.range_succ, List.flatMap_append]
theorem edgesTo_next (l : List Op) (i j : Nat) : edgesTo l i (j + 1) = edgesTo l i j ++ if edge l i j then [Gr.ed i j] else [] := by
  unfold edgesTo
  rw [Gr.filter_next, List.map_append, List.append_assoc]
  split <;> rfl
theorem edges_mem {l : List Op} {e : Gr.Ed} : e ∈ edges l ↔ ∃ i j : Nat, i < 12 ∧ j < 12 ∧ edge l i j = true ∧ e = Gr.ed i j := by
  simp only [edges, edgesTo, List.range_zero, List.filter_nil, List.map_nil, List.append_nil, List.mem_flatMap, List.mem_range, List.mem_map, List.mem_filter]
  constructor
  · rintro ⟨i, hi, j, ⟨hj, h⟩, rfl⟩; exact ⟨i, j, hi, hj, h, rfl⟩
  · rintro ⟨i, j, hi, hj, h, rfl⟩; exact ⟨i, hi, j, ⟨hj, h⟩, rfl⟩
theorem filter_le (p : Nat → Bool) (n : Nat) : ((List.range n).filter p).length ≤ n := Gr.filter_len p n
theorem flat_le : ∀ (n m : Nat) (f : Nat → List Gr.Ed), (∀ i, (f i).length ≤ m) → ((List.range n).flatMap f).length ≤ n * m
  | 0, m, f, _ => by simp
  | n + 1, m, f, h => by
    rw [List.range_succ, List.flatMap_append, List.length_append]
    have := flat_le n m f h
    have h2 := h n
    simp only [List.flatMap_cons, List.flatMap_nil, List.append_nil]
    rw [Nat.add_mul]; omega
theorem edgesTo_len (l : List Op) (i j : Nat) (hi : i ≤ 12) (hj : j ≤ 12) : (edgesTo l i j).length ≤ 156 := by
  unfold edgesTo
  rw [List.length_append, List.length_map]
  have h1 := flat_le i 12 (fun a => ((List.range 12).filter (edge l a)).map (Gr.ed a)) (fun a => by rw [List.length_map]; exact filter_le _ _)
  have h2 := filter_le (edge l i) j
  have : i * 12 ≤ 144 := by omega
  omega
theorem edges_ok (l : List Op) : Gr.check 12 (edges l) = 0 := by
  refine Gr.check_good (by omega) (by have := edgesTo_len l 12 0 (by omega) (by omega); unfold edges; omega) fun e he => ?_
  obtain ⟨i, j, hi, hj, _, rfl⟩ := edges_mem.1 he
  have h1 : decide ((0 : Int) ≤ (i : Int)) = true := decide_eq_true (by omega)
  have h2 : decide ((i : Int) < 12) = true := decide_eq_true (by omega)
  have h3 : decide ((0 : Int) ≤ (j : Int)) = true := decide_eq_true (by omega)
  have h4 : decide ((j : Int) < 12) = true := decide_eq_true (by omega)
  show ((decide ((0 : Int) ≤ (i : Int)) && decide ((i : Int) < 12)) && (decide ((0 : Int) ≤ (j : Int)) && decide ((j : Int) < 12))) = true
  rw [h1, h2, h3, h4]; rfl
theorem edges_E {l : List Op} {i j : Nat} : Gr.E (edges l) i j = true ↔ i < 12 ∧ j < 12 ∧ edge l i j = true := by
  unfold Gr.E
  rw [decide_eq_true_eq, edges_mem]
  constructor
  · rintro ⟨a, b, h1, h2, h3, e⟩
    have e1 : i = a := by have := congrArg Gr.Ed.f e; simp [Gr.ed] at this; omega
    have e2 : j = b := by have := congrArg Gr.Ed.t e; simp [Gr.ed] at this; omega
    subst e1; subst e2
    exact ⟨h1, h2, h3⟩
  · rintro ⟨h1, h2, h3⟩; exact ⟨i, j, h1, h2, h3, rfl⟩

/-! ### Of whom one reads; the kinds -/
/-- The transaction of the last write of an item that is not gone, of the first k. -/
def lastW (p : List Op) (E : Nat → Int) (it : Int) : Nat → Option Int
  | 0 => none
  | k + 1 => match p[k]? with
    | some o => if o.k = 2 ∧ o.i = it ∧ E o.x.toNat ≠ 4 then some o.x else lastW p E it k
    | none => lastW p E it k
def from_ (p : List Op) (o : Op) : Option Int :=
  if item o then (match lastW p (ends p) o.i p.length with
    | some t => if t = o.x then none else some t
    | none => none) else none
/-- t has read from f. -/
def Reads (l : List Op) (k : Nat) (t f : Nat) : Prop := ∃ j o, j < k ∧ l[j]? = some o ∧ o.k = 1 ∧ o.x = t ∧ from_ (l.take j) o = some (f : Int)
def readHit (l : List Op) (j t f : Nat) : Bool := match l[j]? with
  | some o => decide (o.k = 1) && (decide (o.x = t) && decide (from_ (l.take j) o = some (f : Int)))
  | none => false
theorem readHit_iff {l : List Op} {j t f : Nat} : readHit l j t f = true ↔ ∃ o, l[j]? = some o ∧ o.k = 1 ∧ o.x = t ∧ from_ (l.take j) o = some (f : Int) := by
  unfold readHit
  split
  · rename_i o h1
    simp only [Bool.and_eq_true, decide_eq_true_eq, h1, Option.some.injEq]
    constructor
    · intro h; exact ⟨o, rfl, h⟩
    · rintro ⟨o', rfl, h⟩; exact h
  · rename_i hn
    constructor
    · intro h; cases h
    · rintro ⟨o, h1, _⟩; rw [hn] at h1; cases h1
def reads (l : List Op) (k : Nat) (t f : Nat) : Bool := (List.range k).any fun j => readHit l j t f
theorem reads_iff {l : List Op} {k t f : Nat} : reads l k t f = true ↔ Reads l k t f := by
  simp only [reads, List.any_eq_true, List.mem_range, readHit_iff]
  constructor
  · rintro ⟨j, hj, o, r⟩; exact ⟨j, o, hj, r⟩
  · rintro ⟨j, o, hj, r⟩; exact ⟨j, hj, o, r⟩
theorem reads_start (l : List Op) (t f : Nat) : reads l 0 t f = false := rfl
theorem reads_next {l : List Op} {k : Nat} {o : Op} (ho : l[k]? = some o) (t f : Nat) :
    reads l (k + 1) t f = (reads l k t f || (decide (o.k = 1) && decide (o.x = t) && decide (from_ (l.take k) o = some (f : Int)))) := by
  apply Bool.eq_iff_iff.2
  simp only [reads_iff, Bool.or_eq_true, Bool.and_eq_true, decide_eq_true_eq]
  constructor
  · rintro ⟨j, q, hj, hq, r⟩
    by_cases e : j = k
    · subst e; rw [ho] at hq; injection hq with hq; subst hq; exact .inr ⟨⟨r.1, r.2.1⟩, r.2.2⟩
    · exact .inl ⟨j, q, by omega, hq, r⟩
  · rintro (⟨j, q, hj, r⟩ | ⟨⟨h1, h2⟩, h3⟩)
    · exact ⟨j, q, by omega, r⟩
    · exact ⟨k, o, by omega, ho, h1, h2, h3⟩

/-- What one operation asks of the three. -/
def recAt (l : List Op) (k : Nat) (o : Op) : Bool := !decide (o.k = 3) || (List.range 12).all fun f => !reads l k o.x.toNat f || com (l.take k) f
def strAt (l : List Op) (k : Nat) (o : Op) : Bool := match from_ (l.take k) o with
  | some f => com (l.take k) f.toNat
  | none => true
def casAt (l : List Op) (k : Nat) (o : Op) : Bool := match from_ (l.take k) o with
  | some f => com (l.take k) f.toNat || decide (o.k = 2)
  | none => true
def All (l : List Op) (P : Nat → Op → Bool) (k : Nat) : Bool := (List.range k).all fun j => match l[j]? with
  | some o => P j o
  | none => true
theorem All_start (l : List Op) (P : Nat → Op → Bool) : All l P 0 = true := rfl
theorem All_next {l : List Op} {P : Nat → Op → Bool} {k : Nat} {o : Op} (ho : l[k]? = some o) : All l P (k + 1) = (All l P k && P k o) := by
  simp [All, List.range_succ, ho]
theorem All_iff {l : List Op} {P : Nat → Op → Bool} {k : Nat} : All l P k = true ↔ ∀ j o, j < k → l[j]? = some o → P j o = true := by
  simp only [All, List.all_eq_true, List.mem_range]
  constructor
  · intro h j o hj ho
    have := h j hj
    rwa [ho] at this
  · intro h j hj
    split
    · rename_i o ho; exact h j o hj ho
    · rfl
def recB (l : List Op) (k : Nat) : Bool := All l (recAt l) k
def strB (l : List Op) (k : Nat) : Bool := All l (strAt l) k
def casB (l : List Op) (k : Nat) : Bool := All l (casAt l) k
/-- HADZILACOS. -/
theorem str_cas {l : List Op} {k : Nat} (h : strB l k = true) : casB l k = true := by
  refine All_iff.2 fun j o hj ho => ?_
  have := All_iff.1 h j o hj ho
  unfold strAt at this
  unfold casAt
  split
  · rename_i f hf
    rw [hf] at this
    simp only at this
    rw [this]; rfl
  · rfl
theorem cas_rec {l : List Op} (hl : check l = 0) {k : Nat} (h : casB l k = true) : recB l k = true := by
  refine All_iff.2 fun j o hj ho => ?_
  unfold recAt
  cases hk : decide (o.k = 3) with
  | false => rfl
  | true =>
    simp only [Bool.not_true, Bool.false_or, List.all_eq_true, List.mem_range]
    intro f hf
    cases hr : reads l j o.x.toNat f with
    | false => rfl
    | true =>
      obtain ⟨i, q, hi, hq, hq1, hq2, hq3⟩ := reads_iff.1 hr
      have := All_iff.1 h i q (by omega) hq
      unfold casAt at this
      rw [hq3] at this
      simp only [Int.toNat_natCast, Bool.or_eq_true, decide_eq_true_eq] at this
      have hc : com (l.take i) f = true := by
        rcases this with h1 | h1
        · exact h1
        · omega
      simp only [com, decide_eq_true_eq] at hc
      simp only [Bool.not_true, Bool.false_or, com, decide_eq_true_eq]
      exact ends_more hl (c := 3) (by omega) hc (by omega)
end Rn
end Go.Proofs.Ytjoaedkgjnchoac.PRun
