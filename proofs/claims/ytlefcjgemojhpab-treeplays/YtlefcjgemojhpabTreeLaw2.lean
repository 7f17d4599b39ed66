/- A tree of keys in plain words, the second part: what a put, a take of the last one, and a drop make of a node, whatever its child became; lending and joining. -/
import Derived.Test.YtlefcjgemojhpabTreeLaw
namespace Go.Proofs.Ytlefcjgemojhpab.PTree
set_option maxRecDepth 100000
/-- A child as it must be. -/
def Okc (h : Nat) (b : Nd) : Prop := 2 ≤ b.es.length ∧ b.es.length ≤ 4 ∧ Shape h b
theorem shape_one {h : Nat} {E1 E2 : List En} {B1 B2 : List Nd} {b : Nd} (he : E1.length = B1.length) :
    Shape (h + 1) ⟨E1 ++ E2, B1 ++ b :: B2⟩ ↔ E2.length = B2.length ∧ (∀ x ∈ B1, Okc h x) ∧ Okc h b ∧ ∀ x ∈ B2, Okc h x := by
  simp only [Shape, Nd.es_mk, Nd.bs_mk, List.length_append, List.length_cons, List.mem_append, List.mem_cons]
  constructor
  · rintro ⟨h1, h2⟩
    exact ⟨by omega, fun x hx => h2 x (.inl hx), h2 b (.inr (.inl rfl)), fun x hx => h2 x (.inr (.inr hx))⟩
  · rintro ⟨h1, h2, h3, h4⟩
    refine ⟨by omega, ?_⟩
    rintro x (hx | rfl | hx)
    · exact h2 x hx
    · exact h3
    · exact h4 x hx
theorem shape_two {h : Nat} {E1 E2 : List En} {B1 B2 : List Nd} {s : En} {l r : Nd} (he : E1.length = B1.length) :
    Shape (h + 1) ⟨E1 ++ s :: E2, B1 ++ l :: r :: B2⟩ ↔ E2.length = B2.length ∧ (∀ x ∈ B1, Okc h x) ∧ Okc h l ∧ Okc h r ∧ ∀ x ∈ B2, Okc h x := by
  rw [shape_one he]
  simp only [List.length_cons, List.mem_cons]
  constructor
  · rintro ⟨h1, h2, h3, h4⟩
    exact ⟨by omega, h2, h3, h4 r (.inl rfl), fun x hx => h4 x (.inr hx)⟩
  · rintro ⟨h1, h2, h3, h4, h5⟩
    refine ⟨by omega, h2, h3, ?_⟩
    rintro x (rfl | hx)
    · exact h4
    · exact h5 x hx
theorem shape_len {h : Nat} {n : Nd} (hs : Shape (h + 1) n) : n.bs.length = n.es.length + 1 := hs.1
/-! ### A node cut, two joined, one lent -/
theorem cut_node : ∀ {h : Nat} {L : List En} {m : En} {R : List En} {B : List Nd}, Shape h ⟨L ++ m :: R, B⟩ →
    Shape h ⟨L, B.take (L.length + 1)⟩ ∧ Shape h ⟨R, B.drop (L.length + 1)⟩ ∧ lst h ⟨L ++ m :: R, B⟩ = lst h ⟨L, B.take (L.length + 1)⟩ ++ m :: lst h ⟨R, B.drop (L.length + 1)⟩
  | 0, L, m, R, B, hs => by
    have hb : B = [] := hs
    subst hb
    exact ⟨rfl, rfl, rfl⟩
  | h + 1, L, m, R, B, hs => by
    have hl := hs.1
    simp only [Nd.es_mk, Nd.bs_mk, List.length_append, List.length_cons] at hl
    have e1 : (B.take (L.length + 1)).length = L.length + 1 := by rw [List.length_take]; omega
    have e2 : (B.drop (L.length + 1)).length = R.length + 1 := by rw [List.length_drop]; omega
    refine ⟨⟨e1, fun b hb => hs.2 b (List.mem_of_mem_take hb)⟩, ⟨e2, fun b hb => hs.2 b (List.mem_of_mem_drop hb)⟩, ?_⟩
    conv => lhs; arg 2; arg 2; rw [← List.take_append_drop (L.length + 1) B]
    exact lst_cut L m R _ _ e1 e2
theorem glue_node : ∀ {h : Nat} {L : List En} (m : En) {R : List En} {LB RB : List Nd}, Shape h ⟨L, LB⟩ → Shape h ⟨R, RB⟩ →
    Shape h ⟨L ++ m :: R, LB ++ RB⟩ ∧ lst h ⟨L ++ m :: R, LB ++ RB⟩ = lst h ⟨L, LB⟩ ++ m :: lst h ⟨R, RB⟩
  | 0, L, m, R, LB, RB, h1, h2 => by
    have e1 : LB = [] := h1
    have e2 : RB = [] := h2
    subst e1; subst e2
    exact ⟨rfl, rfl⟩
  | h + 1, L, m, R, LB, RB, h1, h2 => by
    have e1 := h1.1
    have e2 := h2.1
    simp only [Nd.es_mk, Nd.bs_mk] at e1 e2
    refine ⟨⟨?_, ?_⟩, lst_cut L m R _ _ e1 e2⟩
    · simp only [Nd.es_mk, Nd.bs_mk, List.length_append, List.length_cons]; omega
    · intro b hb
      rcases List.mem_append.1 hb with hb | hb
      · exact h1.2 b hb
      · exact h2.2 b hb
/-- The last key of the left one goes up, what was up goes to the right one. -/
theorem lend_right : ∀ {h : Nat} {L R : List En} {x s : En} {LB RB : List Nd}, Shape h ⟨L ++ [x], LB⟩ → Shape h ⟨R, RB⟩ →
    Shape h ⟨L, LB.take (L.length + 1)⟩ ∧ Shape h ⟨s :: R, LB.drop (L.length + 1) ++ RB⟩ ∧
    lst h ⟨L, LB.take (L.length + 1)⟩ ++ x :: lst h ⟨s :: R, LB.drop (L.length + 1) ++ RB⟩ = lst h ⟨L ++ [x], LB⟩ ++ s :: lst h ⟨R, RB⟩ := by
  intro h L R x s LB RB h1 h2
  obtain ⟨c1, c2, c3⟩ := cut_node h1
  obtain ⟨g1, g2⟩ := glue_node s c2 h2
  refine ⟨c1, g1, ?_⟩
  have g2 : lst h ⟨s :: R, LB.drop (L.length + 1) ++ RB⟩ = _ := g2
  rw [c3, g2]
  simp
theorem lend_left : ∀ {h : Nat} {L R : List En} {x s : En} {LB RB : List Nd}, Shape h ⟨L, LB⟩ → Shape h ⟨x :: R, RB⟩ →
    Shape h ⟨L ++ [s], LB ++ RB.take 1⟩ ∧ Shape h ⟨R, RB.drop 1⟩ ∧
    lst h ⟨L ++ [s], LB ++ RB.take 1⟩ ++ x :: lst h ⟨R, RB.drop 1⟩ = lst h ⟨L, LB⟩ ++ s :: lst h ⟨x :: R, RB⟩ := by
  intro h L R x s LB RB h1 h2
  obtain ⟨c1, c2, c3⟩ := cut_node (L := []) (m := x) (R := R) h2
  obtain ⟨g1, g2⟩ := glue_node s h1 c1
  refine ⟨g1, c2, ?_⟩
  have c3 : lst h ⟨x :: R, RB⟩ = _ := c3
  simp only [List.length_nil, Nat.zero_add] at c3 g2
  rw [c3, g2]
  simp
/-! ### What a node has, beside one child -/
theorem up_parts {P M Q : List En} (h : Up (P ++ (M ++ Q))) : Up P ∧ Up M ∧ Up Q := by
  rw [Up, List.pairwise_append, List.pairwise_append] at h
  exact ⟨h.1, h.2.1.1, h.2.1.2.1⟩
theorem sub_pre : ∀ {A : List En} {LA : List (List En)}, A.length = LA.length → A.Sublist (pre A LA)
  | [], _, _ => List.nil_sublist _
  | a :: A, l :: LA, h => by
    simp only [pre]
    exact List.Sublist.trans (List.Sublist.cons_cons a (sub_pre (by simpa using h))) (List.sublist_append_right _ _)
theorem sub_post : ∀ {A : List En} {LA : List (List En)}, A.length = LA.length → A.Sublist (post A LA)
  | [], _, _ => List.nil_sublist _
  | a :: A, l :: LA, h => by
    simp only [post, List.cons_append]
    exact List.Sublist.cons_cons a (List.Sublist.trans (sub_post (by simpa using h)) (List.sublist_append_right _ _))
theorem es_sub : ∀ {h : Nat} {n : Nd}, Shape h n → n.es.Sublist (lst h n)
  | 0, n, _ => List.Sublist.refl _
  | h + 1, ⟨es, bs⟩, hs => by
    have hl := hs.1
    simp only [Nd.es_mk, Nd.bs_mk] at hl
    cases bs with
    | nil => simp at hl
    | cons b bs =>
      have e := lst_one (h := h) (E1 := []) (B1 := []) rfl es b bs (by simpa using hl.symm)
      simp only [List.nil_append, pre] at e
      rw [e]
      exact List.Sublist.trans (sub_post (by simpa using hl.symm)) (List.sublist_append_right _ _)
theorem es_up {h : Nat} {n : Nd} (hs : Shape h n) (hu : Up (lst h n)) : Up n.es := hu.sublist (es_sub hs)
/-- Ahead of a key's place all are less, behind it none is. -/
theorem beside {h : Nat} {E1 E2 : List En} {B1 B2 : List Nd} {b : Nd} {k : Int} (he : E1.length = B1.length) (h2 : E2.length = B2.length)
    (hu : Up (lst (h + 1) ⟨E1 ++ E2, B1 ++ b :: B2⟩)) (h1 : ∀ x ∈ E1, x.k < k) (hk : ∀ x ∈ E2, k ≤ x.k) :
    (∀ x ∈ pre E1 (B1.map (lst h)), x.k < k) ∧ (∀ x ∈ post E2 (B2.map (lst h)), k ≤ x.k) ∧ Up (lst h b) := by
  rw [lst_one he E2 b B2 h2] at hu
  obtain ⟨u1, u2, u3⟩ := up_parts hu
  exact ⟨pre_lt E1 _ (by simpa using he) u1 h1, post_ge E2 _ (by simpa using h2) u3 hk, u2⟩
theorem lt_of_ge {L : List En} {k : Int} (h : ∀ x ∈ L, k ≤ x.k) (hn : ∀ x ∈ L, x.k ≠ k) : ∀ x ∈ L, k < x.k := fun x hx => by have := h x hx; have := hn x hx; omega
end Go.Proofs.Ytlefcjgemojhpab.PTree
