/- The levels of a tree in plain words: how many nodes each has, how many keys; many keys on few levels. -/
import Derived.Test.YtlefcjgemojhpahTreeSto
namespace Go.Proofs.Ytlefcjgemojhpah.PTree
set_option maxRecDepth 100000
theorem weave_len : ∀ (es : List En) (ls : List (List En)), ls.length = es.length + 1 → (weave es ls).length = es.length + (ls.map List.length).sum
  | [], [l], _ => by simp [weave]
  | e :: es, l :: ls, h => by
    have h' : ls.length = es.length + 1 := by simpa using h
    simp only [weave, List.length_append, List.length_cons, weave_len es ls h', List.map_cons, List.sum_cons]
    omega
/-- The keys below the nodes of a row. -/
def keys (h : Nat) (ns : List Nd) : Nat := (ns.map fun n => (lst h n).length).sum
def below (ns : List Nd) : List Nd := ns.flatMap Nd.bs
def counts (ns : List Nd) : List Nat := ns.map fun n => n.es.length
theorem keys_succ {h : Nat} : ∀ {ns : List Nd}, (∀ n ∈ ns, Shape (h + 1) n) → keys (h + 1) ns = (counts ns).sum + keys h (below ns)
  | [], _ => rfl
  | n :: ns, hs => by
    have ih := keys_succ (h := h) (ns := ns) fun m hm => hs m (by simp [hm])
    have hn := (hs n (by simp)).1
    have hw := weave_len n.es (n.bs.map (lst h)) (by simpa using hn)
    have e1 : (lst (h + 1) n).length = n.es.length + keys h n.bs := by
      show (weave n.es (n.bs.map (lst h))).length = _
      rw [hw]
      unfold keys
      rw [List.map_map]
      rfl
    have e2 : keys h (below (n :: ns)) = keys h n.bs + keys h (below ns) := by unfold keys below; simp
    have e3 : keys (h + 1) (n :: ns) = (lst (h + 1) n).length + keys (h + 1) ns := by unfold keys; simp
    have e4 : (counts (n :: ns)).sum = n.es.length + (counts ns).sum := by unfold counts; simp
    omega
theorem below_len {h : Nat} : ∀ {ns : List Nd}, (∀ n ∈ ns, Shape (h + 1) n) → (below ns).length = (counts ns).sum + ns.length
  | [], _ => rfl
  | n :: ns, hs => by
    have ih := below_len (h := h) (ns := ns) fun m hm => hs m (by simp [hm])
    have hn := (hs n (by simp)).1
    unfold below at *
    unfold counts at *
    simp only [List.flatMap_cons, List.length_append, List.map_cons, List.sum_cons, List.length_cons]
    omega
theorem below_ok {h : Nat} {ns : List Nd} (hs : ∀ n ∈ ns, Shape (h + 1) n) : ∀ b ∈ below ns, Okc h b := fun b hb => by
  obtain ⟨n, hn, hb⟩ := List.mem_flatMap.1 hb
  exact (hs n hn).2 b hb
theorem keys_two {h : Nat} : ∀ {ns : List Nd}, (∀ n ∈ ns, Okc h n) → 2 * ns.length ≤ keys h ns
  | [], _ => by simp [keys]
  | n :: ns, hs => by
    have ih := keys_two (h := h) (ns := ns) fun m hm => hs m (by simp [hm])
    obtain ⟨h1, _, h3⟩ := hs n (by simp)
    have h2 := (es_sub h3).length_le
    unfold keys at *
    simp only [List.map_cons, List.sum_cons, List.length_cons]
    omega
/-- Level by level. -/
def levels : Nat → List Nd → List (List Nat)
  | 0, ns => [counts ns]
  | h + 1, ns => counts ns :: levels h (below ns)
theorem levels_len : ∀ (h : Nat) (ns : List Nd), (levels h ns).length = h + 1
  | 0, _ => rfl
  | h + 1, ns => by rw [levels, List.length_cons, levels_len h]
/-- BAYER, McCREIGHT: a node with two keys or more, and h levels below, has as many. -/
theorem few_levels : ∀ (h : Nat) {ns : List Nd}, (∀ n ∈ ns, Okc h n) → (3 ^ (h + 1) - 1) * ns.length ≤ keys h ns
  | 0, ns, hs => by have := keys_two hs; simpa using this
  | h + 1, ns, hs => by
    have h1 := keys_succ (h := h) (ns := ns) fun n hn => (hs n hn).2.2
    have h2 := below_len (h := h) (ns := ns) fun n hn => (hs n hn).2.2
    have h3 := few_levels h (below_ok fun n hn => (hs n hn).2.2)
    have h4 : 2 * ns.length ≤ (counts ns).sum := by
      clear h1 h2 h3
      induction ns with
      | nil => simp [counts]
      | cons n ns ih =>
        have := ih fun m hm => hs m (by simp [hm])
        have := (hs n (by simp)).1
        unfold counts at *
        simp only [List.map_cons, List.sum_cons, List.length_cons]
        omega
    have h5 : (below ns).length ≥ 3 * ns.length := by omega
    have hp : 3 ^ (h + 1 + 1) = 3 * 3 ^ (h + 1) := by rw [Nat.pow_succ]; omega
    have hq : 1 ≤ 3 ^ (h + 1) := Nat.one_le_pow _ _ (by omega)
    have h6 : (3 ^ (h + 1) - 1) * (3 * ns.length) ≤ (3 ^ (h + 1) - 1) * (below ns).length := Nat.mul_le_mul_left _ h5
    have h7 : (3 ^ (h + 1 + 1) - 1) * ns.length = (3 ^ (h + 1) - 1) * (3 * ns.length) + 2 * ns.length := by
      rw [hp]
      obtain ⟨q, hq'⟩ : ∃ q, 3 ^ (h + 1) = q + 1 := ⟨3 ^ (h + 1) - 1, by omega⟩
      rw [hq']
      have e : 3 * (q + 1) - 1 = 3 * q + 2 := by omega
      rw [e, Nat.add_sub_cancel, Nat.add_mul]
      have e2 : 3 * q * ns.length = q * (3 * ns.length) := by rw [Nat.mul_comm 3 q, Nat.mul_assoc]
      omega
    omega
/-- A tree on more than one level. -/
theorem many_keys {h : Nat} {n : Nd} (hs : Shape (h + 1) n) (h1 : 1 ≤ n.es.length) : 2 * 3 ^ (h + 1) - 1 ≤ (lst (h + 1) n).length := by
  have e := keys_succ (h := h) (ns := [n]) (by simpa using hs)
  have f := few_levels h (below_ok (ns := [n]) (by simpa using hs))
  have g := below_len (h := h) (ns := [n]) (by simpa using hs)
  have e0 : keys (h + 1) [n] = (lst (h + 1) n).length := by simp [keys]
  have c0 : (counts [n]).sum = n.es.length := by simp [counts]
  have hq : 1 ≤ 3 ^ (h + 1) := Nat.one_le_pow _ _ (by omega)
  have hb : (below [n]).length = n.es.length + 1 := by rw [g, c0]; simp
  have h6 : (3 ^ (h + 1) - 1) * 2 ≤ (3 ^ (h + 1) - 1) * (below [n]).length := Nat.mul_le_mul_left _ (by omega)
  omega
/-! ### Rows of nodes in the store -/
theorem rws_below {h : Nat} {M : Sto} : ∀ {ns : List Nd} {ps A : List Nat}, Rws (Tr (h + 1) M) ns ps A → ∃ A', Rws (Tr h M) (below ns) (ps.flatMap fun p => ((M p).map (·.cs)).getD []) A'
  | [], [], _, _ => ⟨[], rfl⟩
  | n :: ns, p :: ps, A, hr => by
    obtain ⟨X, Y, rfl, ht, hr⟩ := hr
    obtain ⟨cs, A', h1, h2, rfl⟩ := ht
    obtain ⟨A2, h3⟩ := rws_below hr
    refine ⟨A' ++ A2, ?_⟩
    show Rws (Tr h M) (n.bs ++ below ns) ((((M p).map (·.cs)).getD []) ++ _) _
    rw [h1]
    exact h2.app h3
theorem rws_end {M : Sto} : ∀ {ns : List Nd} {ps A : List Nat}, Rws (Tr 0 M) ns ps A → (ps.flatMap fun p => ((M p).map (·.cs)).getD []) = []
  | [], [], _, _ => rfl
  | n :: ns, p :: ps, A, hr => by
    obtain ⟨X, Y, rfl, ht, hr⟩ := hr
    rw [List.flatMap_cons, ht.1, rws_end hr]
    rfl
theorem rws_at {h : Nat} {M : Sto} : ∀ {ns : List Nd} {ps A : List Nat}, Rws (Tr h M) ns ps A → ∀ (i p : Nat), ps[i]? = some p → ∃ n cs, ns[i]? = some n ∧ M p = some ⟨n.es, cs⟩
  | n :: ns, q :: ps, A, hr, 0, p, hp => by
    obtain ⟨X, Y, rfl, ht, hr⟩ := hr
    simp only [List.getElem?_cons_zero, Option.some.injEq] at hp
    subst hp
    obtain ⟨cs, h1⟩ := ht.head
    exact ⟨n, cs, rfl, h1⟩
  | n :: ns, q :: ps, A, hr, i + 1, p, hp => by
    obtain ⟨X, Y, rfl, ht, hr⟩ := hr
    exact rws_at hr i p (by simpa using hp)
  | [], [], _, _, i, p, hp => by simp at hp
end Go.Proofs.Ytlefcjgemojhpah.PTree
