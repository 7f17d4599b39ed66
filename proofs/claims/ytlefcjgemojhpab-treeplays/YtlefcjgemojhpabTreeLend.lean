/- What shiftRight, shiftLeft, join and split make of a tree: its row of entries stays; each child has what it must. Conditions: how many each has. -/
import Derived.Test.YtlefcjgemojhpabTreeRight
import Derived.Test.YtlefcjgemojhpabTreeLeft
import Derived.Test.YtlefcjgemojhpabTreeJoin
import Derived.Test.YtlefcjgemojhpabTreeSplit
namespace Go.Proofs.Ytlefcjgemojhpab.PTree
open Go Go.RowKit PPool
set_option maxRecDepth 100000
theorem Rws.some {R : Nat → Nd → List Nat → Prop} {M : Sto} : ∀ {B : List Nd} {C A : List Nat}, Rws R B C A → (∀ c b X, R c b X → ∀ q ∈ X, M q ≠ none) → ∀ q ∈ A, M q ≠ none
  | [], [], A, h, _, q, hq => by
    have e : A = [] := h
    subst e
    simp at hq
  | b :: B, c :: C, A, h, hi, q, hq => by
    obtain ⟨X, Y, rfl, hr, ht⟩ := h
    rcases List.mem_append.1 hq with hq | hq
    · exact hi _ _ _ hr q hq
    · exact Rws.some ht hi q hq
theorem tr_some : ∀ {h : Nat} {M : Sto} {p : Nat} {n : Nd} {A : List Nat}, Tr h M p n A → ∀ q ∈ A, M q ≠ none
  | 0, M, p, n, A, ⟨h1, _, h3⟩, q, hq => by
    subst h3
    simp only [List.mem_singleton] at hq
    subst hq
    rw [h1]; simp
  | h + 1, M, p, n, A, ⟨cs, A', h1, h2, h3⟩, q, hq => by
    subst h3
    rcases List.mem_cons.1 hq with rfl | hq
    · rw [h1]; simp
    · exact Rws.some h2 (fun c b X ht => tr_some ht) q hq
theorem tr_lt {w : World} {o : Lab} {M : Sto} (hM : Mem w o M) {h p : Nat} {n : Nd} {A : List Nat} (t : Tr h M p n A) : ∀ q ∈ A, q < w.heap.size := fun q hq => by
  cases hm : M q with
  | none => exact absurd hm (tr_some t q hq)
  | some m => exact hM.lt_of hm
/-- What a call left of a tree: the same entries, in nodes that have what they must. -/
def Mended (w : World) (o : Lab) (M : Sto) (h p : Nat) (n : Nd) (A : List Nat) (w' : World) : Prop := ∃ o' M' n' A', Mem w' o' M' ∧ Gos o w w' o' ∧ Stp (h + 1) w.heap.size M M' p n' A A' ∧
  Shape (h + 1) n' ∧ lst (h + 1) n' = lst (h + 1) n ∧ n'.es.length ≤ n.es.length ∧ n.es.length ≤ n'.es.length + 1
theorem kids_len {h : Nat} {L : List En} {B : List Nd} {lc : List Nat} (hs : Shape h ⟨L, B⟩) (hl : lc.length = B.length) : lc = [] ∨ lc.length = L.length + 1 := by
  cases h with
  | zero =>
    have e : B = [] := hs
    rw [e] at hl
    exact .inl (List.eq_nil_of_length_eq_zero hl)
  | succ h => exact .inr (hl.trans hs.1)
theorem kids_le {h : Nat} {L : List En} {B : List Nd} {lc : List Nat} (hs : Shape h ⟨L, B⟩) (hl : lc.length = B.length) : lc.length ≤ L.length + 1 := by
  rcases kids_len hs hl with e | e
  · rw [e]; simp
  · omega
theorem get_mid {α : Type} (A : List α) (x : α) (B : List α) {i : Nat} (hi : i = A.length) : (A ++ x :: B)[i]? = some x := by subst hi; simp
theorem get_mid2 {α : Type} (A : List α) (x y : α) (B : List α) {i : Nat} (hi : i = A.length) : (A ++ x :: y :: B)[i + 1]? = some y := by
  subst hi
  rw [List.getElem?_append_right (by omega), Nat.add_sub_cancel_left]
  rfl
theorem set_mid {α : Type} (A : List α) (x y : α) (B : List α) {i : Nat} (hi : i = A.length) : (A ++ x :: B).set i y = A ++ y :: B := by subst hi; simp
theorem cut_two {α : Type} (A : List α) (x y : α) (B : List α) : (A ++ x :: y :: B).take (A.length + 1) ++ (A ++ x :: y :: B).drop (A.length + 2) = A ++ x :: B := by
  rw [List.take_append, List.drop_append, List.take_of_length_le (by omega), List.drop_of_length_le (by omega), Nat.add_sub_cancel_left, Nat.add_sub_cancel_left]
  simp
theorem put_two {α : Type} (A : List α) (x y : α) (B : List α) : (A ++ x :: B).take (A.length + 1) ++ y :: (A ++ x :: B).drop (A.length + 1) = A ++ x :: y :: B := by
  rw [List.take_append, List.drop_append, List.take_of_length_le (by omega), List.drop_of_length_le (by omega), Nat.add_sub_cancel_left]
  simp
section
variable {w : World} {o : Lab} {M : Sto} {h p i : Nat} {E1 E2 : List En} {B1 B2 : List Nd} {A : List Nat}
theorem lend_right_any {L R : List En} {s x : En} {LB RB : List Nd} (hM : Mem w o M) (t : Tr (h + 1) M p ⟨E1 ++ s :: E2, B1 ++ ⟨L ++ [x], LB⟩ :: ⟨R, RB⟩ :: B2⟩ A) (hn : A.Nodup)
    (hi : i = E1.length) (he : E1.length = B1.length) (h2 : E2.length = B2.length) (hE : E1.length + E2.length ≤ 4) (o1 : ∀ b ∈ B1, Okc h b) (o2 : ∀ b ∈ B2, Okc h b)
    (sl : Shape h ⟨L ++ [x], LB⟩) (sr : Shape h ⟨R, RB⟩) (hL : 2 ≤ L.length) (hL2 : L.length ≤ 3) (hR : R.length = 1) :
    Calls Try.prog 69 #[.pointer (some ⟨p, 0, none⟩), .int .i64 (i : Int)] w fun e w' => e = .returned (.tuple #[]) ∧ Mended w o M h p ⟨E1 ++ s :: E2, B1 ++ ⟨L ++ [x], LB⟩ :: ⟨R, RB⟩ :: B2⟩ A w' := by
  obtain ⟨C1, l, r, C2, lc, rc, m1, m2, m3, m4, m5, m6, n1, n2, n3, fin⟩ := right_step (S := w.heap.size) t hn (tr_lt hM t)
  have hC : C1.length + C2.length + 2 ≤ 7 := by
    obtain ⟨cs, A', q1, q2, _⟩ := tr_iff.1 t
    rw [m1] at q1
    cases q1
    have := Kids.len q2
    simp at this
    omega
  obtain ⟨c1, c2, c3⟩ := lend_right (x := x) (s := s) sl sr
  refine (right_any w o M hM p l r i L.length _ R _ lc rc L s x m1 m3 m5 n1 n2 n3 (get_mid _ _ _ hi) (get_mid _ _ _ (by omega)) (get_mid2 _ _ _ _ (by omega)) (by simp; omega) (by simp; omega) rfl (by omega) (by omega)
    (by have := kids_le sr m6; omega) (by have := kids_len sl m4; simpa using this)).mono ?_
  rintro e w' ⟨rfl, o', M', k1, k2, k3, k4, k5, k6⟩
  rw [set_mid _ _ _ _ hi] at k3
  obtain ⟨A', st⟩ := fin M' k3 k4 k5 k6
  refine ⟨rfl, o', M', _, A', k1, k2, st, ?_, ?_, by simp, by simp⟩
  · rw [shape_two he]
    exact ⟨h2, o1, ⟨hL, by simp only [Nd.es_mk]; omega, c1⟩, ⟨by simp [hR], by simp [hR], c2⟩, o2⟩
  · rw [lst_two he _ _ _ _ _ h2, lst_two he _ _ _ _ _ h2, c3]
theorem lend_left_any {L R : List En} {s x : En} {LB RB : List Nd} (hM : Mem w o M) (t : Tr (h + 1) M p ⟨E1 ++ s :: E2, B1 ++ ⟨L, LB⟩ :: ⟨x :: R, RB⟩ :: B2⟩ A) (hn : A.Nodup)
    (hi : i = E1.length) (he : E1.length = B1.length) (h2 : E2.length = B2.length) (hE : E1.length + E2.length ≤ 4) (o1 : ∀ b ∈ B1, Okc h b) (o2 : ∀ b ∈ B2, Okc h b)
    (sl : Shape h ⟨L, LB⟩) (sr : Shape h ⟨x :: R, RB⟩) (hR : 2 ≤ R.length) (hR2 : R.length ≤ 3) (hL : L.length = 1) :
    Calls Try.prog 70 #[.pointer (some ⟨p, 0, none⟩), .int .i64 (i : Int)] w fun e w' => e = .returned (.tuple #[]) ∧ Mended w o M h p ⟨E1 ++ s :: E2, B1 ++ ⟨L, LB⟩ :: ⟨x :: R, RB⟩ :: B2⟩ A w' := by
  obtain ⟨C1, l, r, C2, lc, rc, m1, m2, m3, m4, m5, m6, n1, n2, n3, fin⟩ := left_step (S := w.heap.size) t hn (tr_lt hM t)
  have hC : C1.length + C2.length + 2 ≤ 7 := by
    obtain ⟨cs, A', q1, q2, _⟩ := tr_iff.1 t
    rw [m1] at q1
    cases q1
    have := Kids.len q2
    simp at this
    omega
  obtain ⟨c1, c2, c3⟩ := lend_left (x := x) (s := s) sl sr
  refine (left_any w o M hM p l r i R.length _ L _ lc rc R s x m1 m3 m5 n1 n2 n3 (get_mid _ _ _ hi) (get_mid _ _ _ (by omega)) (get_mid2 _ _ _ _ (by omega)) (by simp; omega) (by simp; omega) rfl (by omega) (by omega)
    (by have := kids_le sl m4; omega) (by have := kids_len sr m6; simpa using this)).mono ?_
  rintro e w' ⟨rfl, o', M', k1, k2, k3, k4, k5, k6⟩
  rw [set_mid _ _ _ _ hi] at k3
  obtain ⟨A', st⟩ := fin M' k3 k4 k5 k6
  refine ⟨rfl, o', M', _, A', k1, k2, st, ?_, ?_, by simp, by simp⟩
  · rw [shape_two he]
    exact ⟨h2, o1, ⟨by simp [hL], by simp [hL], c1⟩, ⟨hR, by simp only [Nd.es_mk]; omega, c2⟩, o2⟩
  · rw [lst_two he _ _ _ _ _ h2, lst_two he _ _ _ _ _ h2, c3]
theorem join_two_any {L R : List En} {s : En} {LB RB : List Nd} (hM : Mem w o M) (t : Tr (h + 1) M p ⟨E1 ++ s :: E2, B1 ++ ⟨L, LB⟩ :: ⟨R, RB⟩ :: B2⟩ A) (hn : A.Nodup)
    (hi : i = E1.length) (he : E1.length = B1.length) (h2 : E2.length = B2.length) (hE : E1.length + E2.length ≤ 4) (o1 : ∀ b ∈ B1, Okc h b) (o2 : ∀ b ∈ B2, Okc h b)
    (sl : Shape h ⟨L, LB⟩) (sr : Shape h ⟨R, RB⟩) (hLR : L.length + R.length = 3) :
    Calls Try.prog 71 #[.pointer (some ⟨p, 0, none⟩), .int .i64 (i : Int)] w fun e w' => e = .returned (.tuple #[]) ∧ Mended w o M h p ⟨E1 ++ s :: E2, B1 ++ ⟨L, LB⟩ :: ⟨R, RB⟩ :: B2⟩ A w' := by
  obtain ⟨C1, l, r, C2, lc, rc, m1, m2, m3, m4, m5, m6, n1, n2, n3, fin⟩ := join_step (S := w.heap.size) t hn (tr_lt hM t)
  have hC : C1.length + C2.length + 2 ≤ 7 := by
    obtain ⟨cs, A', q1, q2, _⟩ := tr_iff.1 t
    rw [m1] at q1
    cases q1
    have := Kids.len q2
    simp at this
    omega
  obtain ⟨c1, c2⟩ := glue_node s sl sr
  refine (join_any w o M hM p l r i _ L R _ lc rc s m1 m3 m5 n1 n3 (get_mid _ _ _ hi) (get_mid _ _ _ (by omega)) (get_mid2 _ _ _ _ (by omega)) (by simp; omega) (by simp; omega) (by omega) (by omega)
    (by have := kids_le sl m4; omega) (by have := kids_le sr m6; omega)).mono ?_
  rintro e w' ⟨rfl, o', M', k1, k2, k3, k4, k5⟩
  have e1 : (E1 ++ s :: E2).take i ++ (E1 ++ s :: E2).drop (i + 1) = E1 ++ E2 := by subst hi; simp [List.drop_append]
  have e2 : (C1 ++ l :: r :: C2).take (i + 1) ++ (C1 ++ l :: r :: C2).drop (i + 2) = C1 ++ l :: C2 := by
    have : i = C1.length := by omega
    subst this; exact cut_two _ _ _ _
  rw [e1, e2] at k3
  obtain ⟨A', st⟩ := fin M' k3 k4 k5
  refine ⟨rfl, o', M', _, A', k1, k2, st, ?_, ?_, by simp <;> omega, by simp <;> omega⟩
  · rw [shape_one he]
    exact ⟨h2, o1, ⟨by simp; omega, by simp; omega, c1⟩, o2⟩
  · rw [lst_one he _ _ _ h2, lst_two he _ _ _ _ _ h2, c2]
theorem split_one_any {L R : List En} {m : En} {B : List Nd} (hM : Mem w o M) (t : Tr (h + 1) M p ⟨E1 ++ E2, B1 ++ ⟨L ++ m :: R, B⟩ :: B2⟩ A) (hn : A.Nodup)
    (hi : i = E1.length) (he : E1.length = B1.length) (h2 : E2.length = B2.length) (hE : E1.length + E2.length ≤ 5) (o1 : ∀ b ∈ B1, Okc h b) (o2 : ∀ b ∈ B2, Okc h b)
    (sl : Shape h ⟨L ++ m :: R, B⟩) (hL : L.length = 2) (hR : R.length = 2) :
    Calls Try.prog 62 #[.pointer (some ⟨p, 0, none⟩), .int .i64 (i : Int)] w fun e w' => e = .returned (.tuple #[]) ∧ ∃ o' M' n' A', Mem w' o' M' ∧ Gos o w w' o' ∧ Stp (h + 1) w.heap.size M M' p n' A A' ∧
      Shape (h + 1) n' ∧ lst (h + 1) n' = lst (h + 1) ⟨E1 ++ E2, B1 ++ ⟨L ++ m :: R, B⟩ :: B2⟩ ∧ n'.es.length = E1.length + E2.length + 1 := by
  have hlt := tr_lt hM t
  obtain ⟨C1, c, C2, A1, Ab, A2, m1, l1, l2, rfl, k1, k2, k3⟩ := tr_one t
  obtain ⟨cc, X, m3, k4, rfl⟩ := tr_iff.1 k2
  have hC : C1.length + C2.length + 1 ≤ 6 := by omega
  obtain ⟨c1, c2, c3⟩ := cut_node sl
  have npc : p ≠ c := by grind
  refine (split_any w o M hM p c i _ L R m _ cc m1 m3 npc (by simp; omega) (get_mid _ _ _ (by omega)) (by simp; omega) (by simp; omega) hL hR (by have := kids_len sl k4.len; simpa [hL, hR] using this)).mono ?_
  rintro e w' ⟨rfl, o', M', q, hq, j1, j2, j3, j4, j5, j6⟩
  obtain ⟨C1', c', C2', cc', g1, g2, g3, _, _, _, fin⟩ := split_step (S := w.heap.size) t hn hlt hq
  have e0 : C1 ++ c :: C2 = C1' ++ c' :: C2' := by rw [m1] at g1; injection g1 with g1; injection g1
  obtain ⟨rfl, e1⟩ := List.append_inj e0 (by omega)
  injection e1 with e1 e2
  subst e1; subst e2
  have e3 : cc = cc' := by rw [m3] at g3; injection g3 with g3; injection g3
  subst e3
  rw [show (E1 ++ E2).take i ++ m :: (E1 ++ E2).drop i = E1 ++ m :: E2 by subst hi; simp, show (C1 ++ c :: C2).take (i + 1) ++ q :: (C1 ++ c :: C2).drop (i + 1) = C1 ++ c :: q :: C2 by
    have : i = C1.length := by omega
    subst this; exact put_two _ _ _ _] at j3
  obtain ⟨A', st⟩ := fin M' j3 (by rw [hL]; exact j4) (by rw [hL]; exact j5) j6
  refine ⟨rfl, o', M', _, A', j1, j2, st, ?_, ?_, by simp; omega⟩
  · rw [shape_two he]
    exact ⟨h2, o1, ⟨by simp [hL], by simp [hL], c1⟩, ⟨by simp [hR], by simp [hR], c2⟩, o2⟩
  · rw [lst_two he _ _ _ _ _ h2, lst_one he _ _ _ h2, c3]
end
end Go.Proofs.Ytlefcjgemojhpab.PTree
