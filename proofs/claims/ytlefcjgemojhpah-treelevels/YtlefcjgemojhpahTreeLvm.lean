/- What TreeLevels looks at, in plain words: how many nodes each level has, how many keys each node, how many levels. -/
import Derived.Test.YtlefcjgemojhpahTreeTrd
namespace Go.Proofs.Ytlefcjgemojhpah.PTree
set_option maxRecDepth 100000
def allsum (l : List (List Nat)) : Nat := (l.map List.sum).sum
theorem levels_sum : ∀ (h : Nat) {ns : List Nd}, (∀ n ∈ ns, Shape h n) → allsum (levels h ns) = keys h ns
  | 0, ns, _ => by
    unfold levels allsum keys counts lst
    simp
  | h + 1, ns, hs => by
    have ih := levels_sum h (fun n hn => (below_ok hs n hn).2.2)
    rw [keys_succ hs, ← ih]
    show ((counts ns :: levels h (below ns)).map List.sum).sum = _
    simp [allsum]
theorem levels_head : ∀ (h : Nat) (ns : List Nd), (levels h ns)[0]? = some (counts ns)
  | 0, _ => rfl
  | _ + 1, _ => rfl
theorem levels_next : ∀ (h : Nat) {ns : List Nd}, (∀ n ∈ ns, Shape h n) → ∀ (k : Nat) r s, (levels h ns)[k]? = some r → (levels h ns)[k + 1]? = some s → s.length = r.sum + r.length
  | 0, ns, _, k, r, s, _, h2 => by simp [levels] at h2
  | h + 1, ns, hs, 0, r, s, h1, h2 => by
    simp only [levels, List.getElem?_cons_zero, List.getElem?_cons_succ, Option.some.injEq] at h1 h2
    rw [levels_head] at h2
    cases h1; cases h2
    have := below_len hs
    unfold counts at *
    simp only [List.length_map]
    exact this
  | h + 1, ns, hs, k + 1, r, s, h1, h2 => by
    simp only [levels, List.getElem?_cons_succ] at h1 h2
    exact levels_next h (fun n hn => (below_ok hs n hn).2.2) k r s h1 h2
theorem levels_okc : ∀ (h : Nat) {ns : List Nd}, (∀ n ∈ ns, Okc h n) → ∀ (k : Nat) r, (levels h ns)[k]? = some r → ∀ x ∈ r, 2 ≤ x ∧ x ≤ 4
  | h, ns, hs, 0, r, h1 => fun x hx => by
    rw [levels_head] at h1
    cases h1
    obtain ⟨n, hn, rfl⟩ := List.mem_map.1 hx
    exact ⟨(hs n hn).1, (hs n hn).2.1⟩
  | 0, ns, hs, k + 1, r, h1 => by simp [levels] at h1
  | h + 1, ns, hs, k + 1, r, h1 => by
    simp only [levels, List.getElem?_cons_succ] at h1
    exact levels_okc h (below_ok fun n hn => (hs n hn).2.2) k r h1
/-- How many nodes a level is to have. -/
def nodesOf (l : List (List Nat)) : Nat → Nat
  | 0 => 1
  | k + 1 => ((l[k]?).map fun r => r.sum + r.length).getD 0
/-- All that TreeLevels asks of the rows. -/
structure Fits (l : List (List Nat)) (h n : Nat) : Prop where
  len : l.length = h + 1
  rows : ∀ (k : Nat) r, l[k]? = some r → r.length = nodesOf l k ∧ ∀ x ∈ r, (if k = 0 then min 1 h else 2) ≤ x ∧ x ≤ 4
  sum : allsum l = n
  many : h ≠ 0 → 2 * 3 ^ h - 1 ≤ n
  small : n ≤ 2000
theorem fits_of {w : World} {t : Nat} {o : Lab} {M : Sto} {h : Nat} {nd : Nd} {A : List Nat} (T : TopAt w t o M h nd A) : Fits (levels h [nd]) h (lst h nd).length where
  len := levels_len h _
  rows := fun k r hr => by
    have hs1 : ∀ n ∈ [nd], Shape h n := by simpa using T.sh
    refine ⟨?_, ?_⟩
    · cases k with
      | zero =>
        rw [levels_head] at hr
        cases hr; rfl
      | succ k =>
        obtain ⟨s, hsk⟩ : ∃ s, (levels h [nd])[k]? = some s := by
          have := (List.getElem?_eq_some_iff.1 hr).1
          exact ⟨_, List.getElem?_eq_getElem (by omega)⟩
        rw [levels_next h hs1 k s r hsk hr]
        show _ = (((levels h [nd])[k]?).map fun r => r.sum + r.length).getD 0
        rw [hsk]; rfl
    · intro x hx
      cases k with
      | zero =>
        rw [levels_head] at hr
        cases hr
        simp only [counts, List.map_cons, List.map_nil, List.mem_singleton] at hx
        subst hx
        refine ⟨?_, T.top⟩
        simp only [if_true]
        by_cases e : h = 0
        · omega
        · have := T.pos e; omega
      | succ k =>
        simp only [Nat.succ_ne_zero, if_false]
        cases h with
        | zero => simp [levels] at hr
        | succ h =>
          simp only [levels, List.getElem?_cons_succ] at hr
          exact levels_okc h (below_ok hs1) k r hr x hx
  sum := by rw [levels_sum h (by simpa using T.sh)]; simp [keys]
  many := fun e => by
    cases h with
    | zero => exact absurd rfl e
    | succ h => exact many_keys T.sh (T.pos e)
  small := T.small
theorem take_allsum {l : List (List Nat)} {k : Nat} {r : List Nat} (h : l[k]? = some r) : allsum (l.take (k + 1)) = allsum (l.take k) + r.sum := by
  rw [List.take_add_one, h]
  unfold allsum
  simp
theorem allsum_le (l : List (List Nat)) (k : Nat) : allsum (l.take k) ≤ allsum l := by
  have e : allsum (l.take k ++ l.drop k) = allsum (l.take k) + allsum (l.drop k) := by unfold allsum; rw [List.map_append, List.sum_append]
  rw [List.take_append_drop] at e
  omega
theorem take_sum {r : List Nat} {k x : Nat} (h : r[k]? = some x) : (r.take (k + 1)).sum = (r.take k).sum + x := by
  rw [List.take_add_one, h]
  simp
theorem sum_le (r : List Nat) (k : Nat) : (r.take k).sum ≤ r.sum := by
  have e : (r.take k ++ r.drop k).sum = (r.take k).sum + (r.drop k).sum := List.sum_append ..
  rw [List.take_append_drop] at e
  omega
end Go.Proofs.Ytlefcjgemojhpah.PTree
