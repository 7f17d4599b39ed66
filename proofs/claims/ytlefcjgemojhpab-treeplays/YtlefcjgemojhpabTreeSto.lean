/- A store of nodes, and a tree in it: each node at a place of its own; what a change of some places leaves of the tree. -/
import Derived.Test.YtlefcjgemojhpabTreeLaw2
namespace Go.Proofs.Ytlefcjgemojhpab.PTree
set_option maxRecDepth 100000
/-- A node as it is stored: its entries, the places of the nodes below. -/
structure Nn where
  es : List En
  cs : List Nat
abbrev Sto := Nat → Option Nn
def Sto.put (M : Sto) (p : Nat) (n : Nn) : Sto := fun q => if q = p then some n else M q
theorem Sto.put_at (M : Sto) (p : Nat) (n : Nn) : M.put p n p = some n := by simp [Sto.put]
theorem Sto.put_ne (M : Sto) {p q : Nat} (n : Nn) (h : q ≠ p) : M.put p n q = M q := by simp [Sto.put, h]
def Rws (R : Nat → Nd → List Nat → Prop) : List Nd → List Nat → List Nat → Prop
  | [], [], A => A = []
  | b :: B, c :: C, A => ∃ A1 A2, A = A1 ++ A2 ∧ R c b A1 ∧ Rws R B C A2
  | _, _, _ => False
theorem Rws.app {R : Nat → Nd → List Nat → Prop} : ∀ {B1 : List Nd} {C1 A1 : List Nat} {B2 : List Nd} {C2 A2 : List Nat}, Rws R B1 C1 A1 → Rws R B2 C2 A2 → Rws R (B1 ++ B2) (C1 ++ C2) (A1 ++ A2)
  | [], [], A1, B2, C2, A2, h1, h2 => by
    have e : A1 = [] := h1
    subst e
    exact h2
  | b :: B, c :: C, A1, B2, C2, A2, h1, h2 => by
    obtain ⟨X, Y, rfl, hr, ht⟩ := h1
    exact ⟨X, Y ++ A2, by rw [List.append_assoc], hr, ht.app h2⟩
theorem Rws.part {R : Nat → Nd → List Nat → Prop} : ∀ {B1 B2 : List Nd} {C A : List Nat}, Rws R (B1 ++ B2) C A → ∃ C1 C2 A1 A2, C = C1 ++ C2 ∧ A = A1 ++ A2 ∧ Rws R B1 C1 A1 ∧ Rws R B2 C2 A2
  | [], B2, C, A, h => ⟨[], C, [], A, rfl, rfl, rfl, h⟩
  | b :: B, B2, c :: C, A, h => by
    obtain ⟨X, Y, rfl, hr, ht⟩ := h
    obtain ⟨C1, C2, A1, A2, rfl, rfl, h1, h2⟩ := ht.part
    exact ⟨c :: C1, C2, X ++ A1, A2, rfl, by rw [List.append_assoc], ⟨X, A1, rfl, hr, h1⟩, h2⟩
theorem Rws.len {R : Nat → Nd → List Nat → Prop} : ∀ {B : List Nd} {C A : List Nat}, Rws R B C A → C.length = B.length
  | [], [], _, _ => rfl
  | b :: B, c :: C, A, h => by
    obtain ⟨X, Y, rfl, hr, ht⟩ := h
    simp [ht.len]
theorem Rws.imp {R R' : Nat → Nd → List Nat → Prop} : ∀ {B : List Nd} {C A : List Nat}, Rws R B C A → (∀ c b X, (∀ q ∈ X, q ∈ A) → R c b X → R' c b X) → Rws R' B C A
  | [], [], _, h, _ => h
  | b :: B, c :: C, A, h, hi => by
    obtain ⟨X, Y, rfl, hr, ht⟩ := h
    exact ⟨X, Y, rfl, hi _ _ _ (fun q hq => List.mem_append_left _ hq) hr, ht.imp fun c b Z hZ => hi c b Z fun q hq => List.mem_append_right _ (hZ q hq)⟩
theorem Rws.one {R : Nat → Nd → List Nat → Prop} {c : Nat} {b : Nd} {A : List Nat} (h : R c b A) : Rws R [b] [c] A := ⟨A, [], by simp, h, rfl⟩
theorem Rws.cons {R : Nat → Nd → List Nat → Prop} {c : Nat} {b : Nd} {A X : List Nat} {B : List Nd} {C : List Nat} (h : R c b A) (hr : Rws R B C X) : Rws R (b :: B) (c :: C) (A ++ X) := ⟨A, X, rfl, h, hr⟩
/-- A node, and all below it, h levels: it stands at p, in the store M; A: all places. -/
def Tr : Nat → Sto → Nat → Nd → List Nat → Prop
  | 0, M, p, n, A => M p = some ⟨n.es, []⟩ ∧ n.bs = [] ∧ A = [p]
  | h + 1, M, p, n, A => ∃ cs A', M p = some ⟨n.es, cs⟩ ∧ Rws (Tr h M) n.bs cs A' ∧ A = p :: A'
/-- What is below. -/
def Kids : Nat → Sto → List Nd → List Nat → List Nat → Prop
  | 0, _, B, cs, A => B = [] ∧ cs = [] ∧ A = []
  | h + 1, M, B, cs, A => Rws (Tr h M) B cs A
theorem tr_iff {h : Nat} {M : Sto} {p : Nat} {n : Nd} {A : List Nat} : Tr h M p n A ↔ ∃ cs A', M p = some ⟨n.es, cs⟩ ∧ Kids h M n.bs cs A' ∧ A = p :: A' := by
  cases h with
  | zero =>
    constructor
    · rintro ⟨h1, h2, h3⟩; exact ⟨[], [], h1, ⟨h2, rfl, rfl⟩, h3⟩
    · rintro ⟨cs, A', h1, ⟨h2, rfl, rfl⟩, h3⟩; exact ⟨h1, h2, h3⟩
  | succ h => exact Iff.rfl
theorem Tr.keep : ∀ {h : Nat} {M M' : Sto} {p : Nat} {n : Nd} {A : List Nat}, Tr h M p n A → (∀ q ∈ A, M' q = M q) → Tr h M' p n A
  | 0, M, M', p, n, A, ⟨h1, h2, h3⟩, hk => ⟨by rw [hk p (by rw [h3]; simp)]; exact h1, h2, h3⟩
  | h + 1, M, M', p, n, A, ⟨cs, A', h1, h2, h3⟩, hk => ⟨cs, A', by rw [hk p (by rw [h3]; simp)]; exact h1, h2.imp fun c b X hX ht => ht.keep fun q hq => hk q (by rw [h3]; exact List.mem_cons_of_mem _ (hX q hq)), h3⟩
theorem Tr.mem {h : Nat} {M : Sto} {p : Nat} {n : Nd} {A : List Nat} (t : Tr h M p n A) : p ∈ A := by
  obtain ⟨cs, A', _, _, rfl⟩ := tr_iff.1 t
  simp
theorem Tr.head {h : Nat} {M : Sto} {p : Nat} {n : Nd} {A : List Nat} (t : Tr h M p n A) : ∃ cs, M p = some ⟨n.es, cs⟩ := by
  obtain ⟨cs, A', h1, _⟩ := tr_iff.1 t
  exact ⟨cs, h1⟩
theorem Kids.keep {h : Nat} {M M' : Sto} {B : List Nd} {cs A : List Nat} (t : Kids h M B cs A) (hk : ∀ q ∈ A, M' q = M q) : Kids h M' B cs A := by
  cases h with
  | zero => exact t
  | succ h => exact Rws.imp t fun c b X hX ht => ht.keep fun q hq => hk q (hX q hq)
theorem Kids.app {h : Nat} {M : Sto} {B1 B2 : List Nd} {C1 C2 A1 A2 : List Nat} (h1 : Kids h M B1 C1 A1) (h2 : Kids h M B2 C2 A2) : Kids h M (B1 ++ B2) (C1 ++ C2) (A1 ++ A2) := by
  cases h with
  | zero => obtain ⟨rfl, rfl, rfl⟩ := h1; exact h2
  | succ h => exact Rws.app h1 h2
theorem Kids.len {h : Nat} {M : Sto} {B : List Nd} {cs A : List Nat} (t : Kids h M B cs A) : cs.length = B.length := by
  cases h with
  | zero => obtain ⟨rfl, rfl, rfl⟩ := t; rfl
  | succ h => exact Rws.len t
theorem Kids.cut {h : Nat} {M : Sto} {B : List Nd} {cs A : List Nat} (t : Kids h M B cs A) (k : Nat) : ∃ A1 A2, A = A1 ++ A2 ∧ Kids h M (B.take k) (cs.take k) A1 ∧ Kids h M (B.drop k) (cs.drop k) A2 := by
  cases h with
  | zero => obtain ⟨rfl, rfl, rfl⟩ := t; exact ⟨[], [], rfl, ⟨by simp, by simp, rfl⟩, ⟨by simp, by simp, rfl⟩⟩
  | succ h =>
    have hl := Rws.len t
    have t' : Rws (Tr h M) (B.take k ++ B.drop k) cs A := by rw [List.take_append_drop]; exact t
    obtain ⟨C1, C2, A1, A2, rfl, rfl, h1, h2⟩ := t'.part
    have l1 := h1.len
    rw [List.length_take] at l1
    have l2 := h2.len
    rw [List.length_drop] at l2
    refine ⟨A1, A2, rfl, ?_, ?_⟩
    · have : (C1 ++ C2).take k = C1 := by
        by_cases hk : k ≤ B.length
        · rw [List.take_append_of_le_length (by omega), List.take_of_length_le (by omega)]
        · have : C2 = [] := List.eq_nil_of_length_eq_zero (by omega)
          rw [this, List.append_nil, List.take_of_length_le (by omega)]
      rw [this]; exact h1
    · have : (C1 ++ C2).drop k = C2 := by
        by_cases hk : k ≤ B.length
        · rw [List.drop_append_of_le_length (by omega), List.drop_of_length_le (by omega)]; rfl
        · have : C2 = [] := List.eq_nil_of_length_eq_zero (by omega)
          rw [this, List.append_nil, List.drop_of_length_le (by omega)]
      rw [this]; exact h2
/-- The tree with one child opened. -/
theorem tr_one {h : Nat} {M : Sto} {p : Nat} {es : List En} {B1 B2 : List Nd} {b : Nd} {A : List Nat} (t : Tr (h + 1) M p ⟨es, B1 ++ b :: B2⟩ A) :
    ∃ C1 c C2 A1 Ab A2, M p = some ⟨es, C1 ++ c :: C2⟩ ∧ C1.length = B1.length ∧ C2.length = B2.length ∧ A = p :: (A1 ++ (Ab ++ A2)) ∧ Rws (Tr h M) B1 C1 A1 ∧ Tr h M c b Ab ∧ Rws (Tr h M) B2 C2 A2 := by
  obtain ⟨cs, A', h1, h2, rfl⟩ := t
  obtain ⟨C1, Cx, A1, Ax, rfl, rfl, k1, k2⟩ := Rws.part h2
  match Cx, k2 with
  | c :: C2, k2 =>
    obtain ⟨Ab, A2, rfl, k3, k4⟩ := k2
    exact ⟨C1, c, C2, A1, Ab, A2, h1, k1.len, k4.len, rfl, k1, k3, k4⟩
theorem tr_two {h : Nat} {M : Sto} {p : Nat} {es : List En} {B1 B2 : List Nd} {l r : Nd} {A : List Nat} (t : Tr (h + 1) M p ⟨es, B1 ++ l :: r :: B2⟩ A) :
    ∃ C1 pl pr C2 A1 Al Ar A2, M p = some ⟨es, C1 ++ pl :: pr :: C2⟩ ∧ C1.length = B1.length ∧ C2.length = B2.length ∧ A = p :: (A1 ++ (Al ++ (Ar ++ A2))) ∧ Rws (Tr h M) B1 C1 A1 ∧ Tr h M pl l Al ∧ Tr h M pr r Ar ∧ Rws (Tr h M) B2 C2 A2 := by
  obtain ⟨C1, pl, Cx, A1, Al, Ax, h1, l1, l2, rfl, k1, k2, k3⟩ := tr_one t
  match Cx, k3 with
  | pr :: C2, k3 =>
    obtain ⟨Ar, A2, rfl, k4, k5⟩ := k3
    exact ⟨C1, pl, pr, C2, A1, Al, Ar, A2, h1, l1, k5.len, rfl, k1, k2, k4, k5⟩
/-- What a call made of a tree: it stands where it stood; no place is another's; what lies beside it has not turned. -/
structure Stp (h : Nat) (S : Nat) (M M' : Sto) (p : Nat) (n' : Nd) (A A' : List Nat) : Prop where
  tr : Tr h M' p n' A'
  nd : A'.Nodup
  sub : ∀ q ∈ A', q ∈ A ∨ S ≤ q
  off : ∀ q, q ∉ A → q < S → M' q = M q
theorem Stp.trans {h S S1 : Nat} {M M1 M2 : Sto} {p : Nat} {n1 n2 : Nd} {A A1 A2 : List Nat} (s1 : Stp h S M M1 p n1 A A1) (s2 : Stp h S1 M1 M2 p n2 A1 A2) (hS : S ≤ S1) : Stp h S M M2 p n2 A A2 where
  tr := s2.tr
  nd := s2.nd
  sub := fun q hq => by
    rcases s2.sub q hq with e | e
    · exact s1.sub q e
    · exact .inr (by omega)
  off := fun q hq hS' => by
    rw [s2.off q (fun e => by rcases s1.sub q e with e | e; exact hq e; omega) (by omega), s1.off q hq hS']
/-- A child changed: the node above. -/
theorem Stp.child {h S : Nat} {M M' : Sto} {p c : Nat} {es : List En} {B1 B2 : List Nd} {b' : Nd} {C1 C2 A1 Ab A2 Ab' : List Nat}
    (hp : M p = some ⟨es, C1 ++ c :: C2⟩) (k1 : Rws (Tr h M) B1 C1 A1) (k2 : Rws (Tr h M) B2 C2 A2) (hn : (p :: (A1 ++ (Ab ++ A2))).Nodup) (hS : ∀ q ∈ p :: (A1 ++ (Ab ++ A2)), q < S)
    (s : Stp h S M M' c b' Ab Ab') : Stp (h + 1) S M M' p ⟨es, B1 ++ b' :: B2⟩ (p :: (A1 ++ (Ab ++ A2))) (p :: (A1 ++ (Ab' ++ A2))) where
  tr := by
    have k1' : Rws (Tr h M') B1 C1 A1 := k1.imp fun c b X hX ht => ht.keep fun q hq => s.off q (by have := hX q hq; grind) (hS q (by have := hX q hq; grind))
    have k2' : Rws (Tr h M') B2 C2 A2 := k2.imp fun c b X hX ht => ht.keep fun q hq => s.off q (by have := hX q hq; grind) (hS q (by have := hX q hq; grind))
    refine ⟨C1 ++ c :: C2, A1 ++ (Ab' ++ A2), ?_, k1'.app (Rws.cons s.tr k2'), rfl⟩
    rw [s.off p (by grind) (hS p (by simp))]
    exact hp
  nd := by
    have h1 := s.nd
    have h2 := s.sub
    clear s k1 k2 hp
    simp only [List.nodup_cons, List.nodup_append, List.mem_append, List.mem_cons, not_or] at hn hS h1 h2 ⊢
    grind
  sub := by
    have h2 := s.sub
    clear s k1 k2 hp
    simp only [List.mem_append, List.mem_cons] at h2 ⊢
    grind
  off := fun q hq hS' => s.off q (by grind) hS'
/-- A node and two children changed. -/
theorem Stp.pair {h S : Nat} {M M' : Sto} {p pl pr : Nat} {es : List En} {B1 B2 : List Nd} {l' r' : Nd} {C1 C2 A1 Al Ar A2 Al' Ar' : List Nat}
    (k1 : Rws (Tr h M) B1 C1 A1) (k2 : Rws (Tr h M) B2 C2 A2) (hn : (p :: (A1 ++ (Al ++ (Ar ++ A2)))).Nodup) (hS : ∀ q ∈ p :: (A1 ++ (Al ++ (Ar ++ A2))), q < S)
    (hp : M' p = some ⟨es, C1 ++ pl :: pr :: C2⟩) (tl : Tr h M' pl l' Al') (tr : Tr h M' pr r' Ar') (hn' : (Al' ++ Ar').Nodup) (hsub : ∀ q ∈ Al' ++ Ar', q ∈ Al ++ Ar ∨ S ≤ q)
    (hoff : ∀ q, q ≠ p → q ∉ Al ++ Ar → q < S → M' q = M q) : Stp (h + 1) S M M' p ⟨es, B1 ++ l' :: r' :: B2⟩ (p :: (A1 ++ (Al ++ (Ar ++ A2)))) (p :: (A1 ++ (Al' ++ (Ar' ++ A2)))) where
  tr := by
    have k1' : Rws (Tr h M') B1 C1 A1 := k1.imp fun c b X hX ht => ht.keep fun q hq => hoff q (by have := hX q hq; grind) (by have := hX q hq; grind) (hS q (by have := hX q hq; grind))
    have k2' : Rws (Tr h M') B2 C2 A2 := k2.imp fun c b X hX ht => ht.keep fun q hq => hoff q (by have := hX q hq; grind) (by have := hX q hq; grind) (hS q (by have := hX q hq; grind))
    exact ⟨_, _, hp, k1'.app (Rws.cons tl (Rws.cons tr k2')), rfl⟩
  nd := by
    clear k1 k2 hp tl tr hoff
    simp only [List.nodup_cons, List.nodup_append, List.mem_append, List.mem_cons, not_or] at hn hS hn' hsub ⊢
    grind
  sub := by
    clear k1 k2 hp tl tr hoff
    simp only [List.mem_append, List.mem_cons] at hsub ⊢
    grind
  off := fun q hq hS' => hoff q (by grind) (by grind) hS'
/-- Two children made one. -/
theorem Stp.join {h S : Nat} {M M' : Sto} {p pl : Nat} {es : List En} {B1 B2 : List Nd} {l' : Nd} {C1 C2 A1 Al Ar A2 Al' : List Nat}
    (k1 : Rws (Tr h M) B1 C1 A1) (k2 : Rws (Tr h M) B2 C2 A2) (hn : (p :: (A1 ++ (Al ++ (Ar ++ A2)))).Nodup) (hS : ∀ q ∈ p :: (A1 ++ (Al ++ (Ar ++ A2))), q < S)
    (hp : M' p = some ⟨es, C1 ++ pl :: C2⟩) (tl : Tr h M' pl l' Al') (hn' : Al'.Nodup) (hsub : ∀ q ∈ Al', q ∈ Al ++ Ar ∨ S ≤ q)
    (hoff : ∀ q, q ≠ p → q ∉ Al ++ Ar → q < S → M' q = M q) : Stp (h + 1) S M M' p ⟨es, B1 ++ l' :: B2⟩ (p :: (A1 ++ (Al ++ (Ar ++ A2)))) (p :: (A1 ++ (Al' ++ A2))) where
  tr := by
    have k1' : Rws (Tr h M') B1 C1 A1 := k1.imp fun c b X hX ht => ht.keep fun q hq => hoff q (by have := hX q hq; grind) (by have := hX q hq; grind) (hS q (by have := hX q hq; grind))
    have k2' : Rws (Tr h M') B2 C2 A2 := k2.imp fun c b X hX ht => ht.keep fun q hq => hoff q (by have := hX q hq; grind) (by have := hX q hq; grind) (hS q (by have := hX q hq; grind))
    exact ⟨_, _, hp, k1'.app (Rws.cons tl k2'), rfl⟩
  nd := by
    clear k1 k2 hp tl hoff
    simp only [List.nodup_cons, List.nodup_append, List.mem_append, List.mem_cons, not_or] at hn hS hn' hsub ⊢
    grind
  sub := by
    clear k1 k2 hp tl hoff
    simp only [List.mem_append, List.mem_cons] at hsub ⊢
    grind
  off := fun q hq hS' => hoff q (by grind) (by grind) hS'
end Go.Proofs.Ytlefcjgemojhpab.PTree
