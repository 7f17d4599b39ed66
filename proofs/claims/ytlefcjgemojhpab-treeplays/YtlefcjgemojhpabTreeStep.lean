/- A tree in a store of nodes: a child parted in two, a key lent by a neighbour, two children made one: what stands then, and that the row of all entries is as it was. -/
import Derived.Test.YtlefcjgemojhpabTreeSto
namespace Go.Proofs.Ytlefcjgemojhpab.PTree
set_option maxRecDepth 100000
/-- Off some places the store is as it was. -/
def Off (M M' : Sto) (l : List Nat) : Prop := ∀ r, r ∉ l → M' r = M r
theorem split_step {h S : Nat} {M : Sto} {p q : Nat} {E1 E2 L R : List En} {m : En} {B1 B2 B : List Nd} {A : List Nat}
    (t : Tr (h + 1) M p ⟨E1 ++ E2, B1 ++ ⟨L ++ m :: R, B⟩ :: B2⟩ A) (hn : A.Nodup) (hS : ∀ r ∈ A, r < S) (hq : S ≤ q) :
    ∃ C1 c C2 cc, M p = some ⟨E1 ++ E2, C1 ++ c :: C2⟩ ∧ C1.length = B1.length ∧ M c = some ⟨L ++ m :: R, cc⟩ ∧ cc.length = B.length ∧ p ≠ c ∧ c < S ∧
      ∀ M' : Sto, M' p = some ⟨E1 ++ m :: E2, C1 ++ c :: q :: C2⟩ → M' c = some ⟨L, cc.take (L.length + 1)⟩ → M' q = some ⟨R, cc.drop (L.length + 1)⟩ → Off M M' [p, c, q] →
        ∃ A', Stp (h + 1) S M M' p ⟨E1 ++ m :: E2, B1 ++ ⟨L, B.take (L.length + 1)⟩ :: ⟨R, B.drop (L.length + 1)⟩ :: B2⟩ A A' := by
  obtain ⟨C1, c, C2, A1, Ab, A2, h1, l1, l2, rfl, k1, k2, k3⟩ := tr_one t
  obtain ⟨cc, X, h2, k4, rfl⟩ := tr_iff.1 k2
  refine ⟨C1, c, C2, cc, h1, l1, h2, k4.len, by grind, hS c (by simp), fun M' e1 e2 e3 hoff => ?_⟩
  obtain ⟨X1, X2, rfl, k5, k6⟩ := k4.cut (L.length + 1)
  have hX : ∀ r ∈ X1 ++ X2, M' r = M r := fun r hr => hoff r (by
    have := hS r (by simp only [List.mem_cons, List.mem_append] at hr ⊢; grind)
    simp only [List.nodup_cons, List.nodup_append, List.mem_append, List.mem_cons, not_or, List.not_mem_nil] at hn hr ⊢
    grind)
  refine ⟨_, Stp.pair (Al := c :: (X1 ++ X2)) (Ar := []) (Al' := c :: X1) (Ar' := q :: X2) (pr := q) k1 k3 (by simpa using hn) (by simpa using hS) e1
    (tr_iff.2 ⟨_, _, e2, k5.keep fun r hr => hX r (by simp [hr]), rfl⟩) (tr_iff.2 ⟨_, _, e3, k6.keep fun r hr => hX r (by simp [hr]), rfl⟩) ?_ ?_ ?_⟩
  · clear k1 k2 k3 k5 k6 hX hoff
    have hS' : ∀ r ∈ c :: (X1 ++ X2), r < S := fun r hr => hS r (by simp only [List.mem_cons, List.mem_append] at hr ⊢; grind)
    simp only [List.cons_append, List.nodup_cons, List.nodup_append, List.mem_append, List.mem_cons, not_or] at hn hS' ⊢
    grind
  · clear k1 k2 k3 k5 k6 hX hoff
    intro r hr
    simp only [List.mem_append, List.mem_cons, List.append_nil] at hr ⊢
    grind
  · intro r hp hr hrS
    refine hoff r ?_
    simp only [List.mem_append, List.mem_cons, List.append_nil, List.not_mem_nil] at hr ⊢
    grind
theorem right_step {h S : Nat} {M : Sto} {p : Nat} {E1 E2 L R : List En} {s x : En} {B1 B2 LB RB : List Nd} {A : List Nat}
    (t : Tr (h + 1) M p ⟨E1 ++ s :: E2, B1 ++ ⟨L ++ [x], LB⟩ :: ⟨R, RB⟩ :: B2⟩ A) (hn : A.Nodup) (hS : ∀ r ∈ A, r < S) :
    ∃ C1 l r C2 lc rc, M p = some ⟨E1 ++ s :: E2, C1 ++ l :: r :: C2⟩ ∧ C1.length = B1.length ∧ M l = some ⟨L ++ [x], lc⟩ ∧ lc.length = LB.length ∧ M r = some ⟨R, rc⟩ ∧ rc.length = RB.length ∧ p ≠ l ∧ p ≠ r ∧ l ≠ r ∧
      ∀ M' : Sto, M' p = some ⟨E1 ++ x :: E2, C1 ++ l :: r :: C2⟩ → M' l = some ⟨L, lc.take (L.length + 1)⟩ → M' r = some ⟨s :: R, lc.drop (L.length + 1) ++ rc⟩ → Off M M' [p, l, r] →
        ∃ A', Stp (h + 1) S M M' p ⟨E1 ++ x :: E2, B1 ++ ⟨L, LB.take (L.length + 1)⟩ :: ⟨s :: R, LB.drop (L.length + 1) ++ RB⟩ :: B2⟩ A A' := by
  obtain ⟨C1, l, r, C2, A1, Al, Ar, A2, h1, l1, l2, rfl, k1, k2, k3, k4⟩ := tr_two t
  obtain ⟨lc, X, h2, k5, rfl⟩ := tr_iff.1 k2
  obtain ⟨rc, Y, h3, k6, rfl⟩ := tr_iff.1 k3
  refine ⟨C1, l, r, C2, lc, rc, h1, l1, h2, k5.len, h3, k6.len, by grind, by grind, by grind, fun M' e1 e2 e3 hoff => ?_⟩
  obtain ⟨X1, X2, rfl, k7, k8⟩ := k5.cut (L.length + 1)
  have hX : ∀ z ∈ (X1 ++ X2) ++ Y, M' z = M z := fun z hz => hoff z (by
    simp only [List.nodup_cons, List.nodup_append, List.mem_append, List.mem_cons, not_or, List.not_mem_nil] at hn hz ⊢
    grind)
  refine ⟨_, Stp.pair (Al := l :: (X1 ++ X2)) (Ar := r :: Y) (Al' := l :: X1) (Ar' := r :: (X2 ++ Y)) k1 k4 hn hS e1
    (tr_iff.2 ⟨_, _, e2, k7.keep fun z hz => hX z (by simp [hz]), rfl⟩) (tr_iff.2 ⟨_, _, e3, Kids.app (k8.keep fun z hz => hX z (by simp [hz])) (k6.keep fun z hz => hX z (by simp [hz])), rfl⟩) ?_ ?_ ?_⟩
  · clear k1 k2 k3 k5 k6 k7 k8 k4 hX hoff t hS
    simp only [List.cons_append, List.append_assoc, List.nodup_cons, List.nodup_append, List.mem_append, List.mem_cons, not_or] at hn ⊢
    grind
  · intro z hz
    simp only [List.mem_append, List.mem_cons] at hz ⊢
    grind
  · intro z hp hz hzS
    refine hoff z ?_
    simp only [List.mem_append, List.mem_cons, List.not_mem_nil] at hz ⊢
    grind
theorem left_step {h S : Nat} {M : Sto} {p : Nat} {E1 E2 L R : List En} {s x : En} {B1 B2 LB RB : List Nd} {A : List Nat}
    (t : Tr (h + 1) M p ⟨E1 ++ s :: E2, B1 ++ ⟨L, LB⟩ :: ⟨x :: R, RB⟩ :: B2⟩ A) (hn : A.Nodup) (hS : ∀ r ∈ A, r < S) :
    ∃ C1 l r C2 lc rc, M p = some ⟨E1 ++ s :: E2, C1 ++ l :: r :: C2⟩ ∧ C1.length = B1.length ∧ M l = some ⟨L, lc⟩ ∧ lc.length = LB.length ∧ M r = some ⟨x :: R, rc⟩ ∧ rc.length = RB.length ∧ p ≠ l ∧ p ≠ r ∧ l ≠ r ∧
      ∀ M' : Sto, M' p = some ⟨E1 ++ x :: E2, C1 ++ l :: r :: C2⟩ → M' l = some ⟨L ++ [s], lc ++ rc.take 1⟩ → M' r = some ⟨R, rc.drop 1⟩ → Off M M' [p, l, r] →
        ∃ A', Stp (h + 1) S M M' p ⟨E1 ++ x :: E2, B1 ++ ⟨L ++ [s], LB ++ RB.take 1⟩ :: ⟨R, RB.drop 1⟩ :: B2⟩ A A' := by
  obtain ⟨C1, l, r, C2, A1, Al, Ar, A2, h1, l1, l2, rfl, k1, k2, k3, k4⟩ := tr_two t
  obtain ⟨lc, X, h2, k5, rfl⟩ := tr_iff.1 k2
  obtain ⟨rc, Y, h3, k6, rfl⟩ := tr_iff.1 k3
  refine ⟨C1, l, r, C2, lc, rc, h1, l1, h2, k5.len, h3, k6.len, by grind, by grind, by grind, fun M' e1 e2 e3 hoff => ?_⟩
  obtain ⟨Y1, Y2, rfl, k7, k8⟩ := k6.cut 1
  have hX : ∀ z ∈ X ++ (Y1 ++ Y2), M' z = M z := fun z hz => hoff z (by
    simp only [List.nodup_cons, List.nodup_append, List.mem_append, List.mem_cons, not_or, List.not_mem_nil] at hn hz ⊢
    grind)
  refine ⟨_, Stp.pair (Al := l :: X) (Ar := r :: (Y1 ++ Y2)) (Al' := l :: (X ++ Y1)) (Ar' := r :: Y2) k1 k4 hn hS e1
    (tr_iff.2 ⟨_, _, e2, Kids.app (k5.keep fun z hz => hX z (by simp [hz])) (k7.keep fun z hz => hX z (by simp [hz])), rfl⟩) (tr_iff.2 ⟨_, _, e3, k8.keep fun z hz => hX z (by simp [hz]), rfl⟩) ?_ ?_ ?_⟩
  · clear k1 k2 k3 k5 k6 k7 k8 k4 hX hoff t hS
    simp only [List.cons_append, List.append_assoc, List.nodup_cons, List.nodup_append, List.mem_append, List.mem_cons, not_or] at hn ⊢
    grind
  · intro z hz
    simp only [List.mem_append, List.mem_cons] at hz ⊢
    grind
  · intro z hp hz hzS
    refine hoff z ?_
    simp only [List.mem_append, List.mem_cons, List.not_mem_nil] at hz ⊢
    grind
theorem join_step {h S : Nat} {M : Sto} {p : Nat} {E1 E2 L R : List En} {s : En} {B1 B2 LB RB : List Nd} {A : List Nat}
    (t : Tr (h + 1) M p ⟨E1 ++ s :: E2, B1 ++ ⟨L, LB⟩ :: ⟨R, RB⟩ :: B2⟩ A) (hn : A.Nodup) (hS : ∀ r ∈ A, r < S) :
    ∃ C1 l r C2 lc rc, M p = some ⟨E1 ++ s :: E2, C1 ++ l :: r :: C2⟩ ∧ C1.length = B1.length ∧ M l = some ⟨L, lc⟩ ∧ lc.length = LB.length ∧ M r = some ⟨R, rc⟩ ∧ rc.length = RB.length ∧ p ≠ l ∧ p ≠ r ∧ l ≠ r ∧
      ∀ M' : Sto, M' p = some ⟨E1 ++ E2, C1 ++ l :: C2⟩ → M' l = some ⟨L ++ s :: R, lc ++ rc⟩ → Off M M' [p, l] →
        ∃ A', Stp (h + 1) S M M' p ⟨E1 ++ E2, B1 ++ ⟨L ++ s :: R, LB ++ RB⟩ :: B2⟩ A A' := by
  obtain ⟨C1, l, r, C2, A1, Al, Ar, A2, h1, l1, l2, rfl, k1, k2, k3, k4⟩ := tr_two t
  obtain ⟨lc, X, h2, k5, rfl⟩ := tr_iff.1 k2
  obtain ⟨rc, Y, h3, k6, rfl⟩ := tr_iff.1 k3
  refine ⟨C1, l, r, C2, lc, rc, h1, l1, h2, k5.len, h3, k6.len, by grind, by grind, by grind, fun M' e1 e2 hoff => ?_⟩
  have hX : ∀ z ∈ X ++ Y, M' z = M z := fun z hz => hoff z (by
    simp only [List.nodup_cons, List.nodup_append, List.mem_append, List.mem_cons, not_or, List.not_mem_nil] at hn hz ⊢
    grind)
  refine ⟨_, Stp.join (Al := l :: X) (Ar := r :: Y) (Al' := l :: (X ++ Y)) k1 k4 hn hS e1
    (tr_iff.2 ⟨_, _, e2, Kids.app (k5.keep fun z hz => hX z (by simp [hz])) (k6.keep fun z hz => hX z (by simp [hz])), rfl⟩) ?_ ?_ ?_⟩
  · clear k1 k2 k3 k5 k6 k4 hX hoff t hS
    simp only [List.cons_append, List.nodup_cons, List.nodup_append, List.mem_append, List.mem_cons, not_or] at hn ⊢
    grind
  · intro z hz
    simp only [List.mem_append, List.mem_cons] at hz ⊢
    grind
  · intro z hp hz hzS
    refine hoff z ?_
    simp only [List.mem_append, List.mem_cons, List.not_mem_nil] at hz ⊢
    grind
end Go.Proofs.Ytlefcjgemojhpab.PTree
