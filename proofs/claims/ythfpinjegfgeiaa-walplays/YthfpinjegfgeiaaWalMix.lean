/- Records one behind the other: what Open finds; and what it finds of sectors of which some were lost. No program in it. -/
import Derived.Test.YthfpinjegfgeiaaWalNum
namespace Go.Proofs.Ythfpinjegfgeiaa
namespace Wl
open PCode PFold

/-- Records R, one behind the other, at the front of l; m is behind them. -/
inductive Chain (top : Int) : Int → Nat → List By → List Rec → List By → Prop
  | nil (a : Int) (c : Nat) (l : List By) : Chain top a c l [] l
  | cons {a : Int} {c : Nat} {l : List By} {r : Rec} {R : List Rec} {m : List By} (h : getRec l (c : Int) = some r) (h1 : a ≤ r.epoch) (h2 : r.epoch ≤ top) (hc : Chain top r.epoch (c + 1) (l.drop r.size) R m) : Chain top a c l (r :: R) m
def lastEp : Int → List Rec → Int
  | a, [] => a
  | _, r :: R => lastEp r.epoch R
def sizes : List Rec → Nat
  | [] => 0
  | r :: R => r.size + sizes R
/-- There is no further one. -/
def Ends (top a : Int) (c : Nat) (m : List By) : Prop := ∀ r, getRec m (c : Int) = some r → r.epoch < a ∨ top < r.epoch

theorem lastEp_app (a : Int) (R S : List Rec) : lastEp a (R ++ S) = lastEp (lastEp a R) S := by
  induction R generalizing a with
  | nil => rfl
  | cons r R ih => exact ih r.epoch
theorem sizes_app (R S : List Rec) : sizes (R ++ S) = sizes R + sizes S := by
  induction R with
  | nil => simp [sizes]
  | cons r R ih => simp [sizes, ih]; omega

theorem Chain.trans {top a : Int} {c : Nat} {l m n : List By} {R S : List Rec} (h : Chain top a c l R m) (k : Chain top (lastEp a R) (c + R.length) m S n) : Chain top a c l (R ++ S) n := by
  induction h with
  | nil a c l => simpa [lastEp] using k
  | cons h h1 h2 hc ih =>
    refine .cons h h1 h2 (ih ?_)
    simp only [lastEp, List.length_cons] at k
    rw [show ∀ x y : Nat, x + 1 + y = x + (y + 1) by omega]
    exact k
theorem Chain.up {top top' a : Int} (ht : top ≤ top') {c : Nat} {l m : List By} {R : List Rec} (h : Chain top a c l R m) : Chain top' a c l R m := by
  induction h with
  | nil a c l => exact .nil a c l
  | cons h h1 h2 hc ih => exact .cons h h1 (by omega) ih
theorem Chain.drop {top a : Int} {c : Nat} {l m : List By} {R : List Rec} (h : Chain top a c l R m) : sizes R ≤ l.length ∧ m = l.drop (sizes R) ∧ R.length ≤ sizes R := by
  induction h with
  | nil a c l => simp [sizes]
  | cons h h1 h2 hc ih =>
    obtain ⟨q1, q2, _⟩ := rec_local h
    rw [List.length_drop, List.drop_drop] at ih
    refine ⟨by simp only [sizes]; omega, by simp only [sizes]; rw [ih.2.1], by simp only [sizes, List.length_cons]; omega⟩
theorem Chain.last_le {top a : Int} {c : Nat} {l m : List By} {R : List Rec} (h : Chain top a c l R m) (ha : a ≤ top) : a ≤ lastEp a R ∧ lastEp a R ≤ top := by
  induction h with
  | nil a c l => exact ⟨Int.le_refl _, ha⟩
  | cons h h1 h2 hc ih => have := ih h2; simp only [lastEp]; omega
theorem Chain.det {top a : Int} {c : Nat} {l m m' : List By} {R S : List Rec} (h : Chain top a c l R m) (e : Ends top (lastEp a R) (c + R.length) m) (k : Chain top a c l S m') (e' : Ends top (lastEp a S) (c + S.length) m') : R = S ∧ m = m' := by
  induction h generalizing S with
  | nil a c l =>
    cases k with
    | nil => exact ⟨rfl, rfl⟩
    | cons g g1 g2 gc =>
      have := e _ (by simpa using g)
      simp only [lastEp] at this
      omega
  | cons h h1 h2 hc ih =>
    cases k with
    | nil =>
      have := e' _ (by simpa using h)
      simp only [lastEp] at this
      omega
    | cons g g1 g2 gc =>
      rw [h] at g
      injection g with g
      subst g
      simp only [lastEp, List.length_cons] at e e'
      rw [show ∀ x y : Nat, x + (y + 1) = x + 1 + y by omega] at e e'
      obtain ⟨q1, q2⟩ := ih e gc e'
      exact ⟨by rw [q1], q2⟩
/-- What is behind them may be another thing. -/
theorem Chain.behind {top a : Int} {c : Nat} {l m : List By} {R : List Rec} (h : Chain top a c l R m) (m' : List By) : Chain top a c (l.take (sizes R) ++ m') R m' := by
  induction h with
  | nil a c l => simpa [sizes] using Chain.nil a c m'
  | cons h h1 h2 hc ih =>
    rename_i a c l r R m
    obtain ⟨q1, q2, _, _, q5⟩ := rec_local h
    have hd := (Chain.cons h h1 h2 hc).drop.1
    simp only [sizes] at hd ⊢
    refine .cons (q5 _ ?_) h1 h2 ?_
    · rw [List.take_append_of_le_length (by rw [List.length_take]; omega), List.take_take]
      congr 1
      omega
    · rw [List.drop_append_of_le_length (by rw [List.length_take]; omega), List.drop_take, Nat.add_sub_cancel_left]
      exact ih

/-! ### New records behind old ones -/
def news (E : Int) : Nat → List By → List By
  | _, [] => []
  | c, t :: T => (secsOf E c t).map padB ++ news E (c + 1) T
def recs (E : Int) : Nat → List By → List Rec
  | _, [] => []
  | c, t :: T => ⟨t, E, (secsOf E c t).length⟩ :: recs E (c + 1) T
theorem recs_text (E : Int) (c : Nat) (T : List By) : (recs E c T).map (·.text) = T := by
  induction T generalizing c with
  | nil => rfl
  | cons t T ih => simp [recs, ih]
theorem recs_len (E : Int) (c : Nat) (T : List By) : (recs E c T).length = T.length := by
  induction T generalizing c with
  | nil => rfl
  | cons t T ih => simp [recs, ih]
theorem recs_sizes (E : Int) (c : Nat) (T : List By) : sizes (recs E c T) = (news E c T).length := by
  induction T generalizing c with
  | nil => rfl
  | cons t T ih => simp [recs, news, sizes, ih]
theorem recs_last (E : Int) (c : Nat) (T : List By) (a : Int) : lastEp a (recs E c T) = if T = [] then a else E := by
  induction T generalizing c a with
  | nil => rfl
  | cons t T ih =>
    simp only [recs, lastEp, ih]
    split <;> simp
theorem news_app (E : Int) (c : Nat) (T U : List By) : news E c (T ++ U) = news E c T ++ news E (c + T.length) U := by
  induction T generalizing c with
  | nil => simp [news]
  | cons t T ih => rw [List.cons_append, news, news, ih, List.append_assoc, List.length_cons, show c + 1 + T.length = c + (T.length + 1) by omega]

theorem cut_ep (E n : Int) (hE : I64 E) (h2 : By) (hh : h2 = headB 2 E n) : ∀ (f : Nat) (h1 r : By), (∃ m, h1 = headB m E n) → ∀ s ∈ cut h2 h1 f r, ep (padB s) = E := by
  intro f
  induction f with
  | zero => intro h1 r _ s hs; cases hs
  | succ f ih =>
    intro h1 r hm s hs
    rw [cut] at hs
    split at hs
    · cases hs
    · rcases List.mem_cons.1 hs with rfl | hs
      · obtain ⟨m, rfl⟩ := hm
        unfold padB
        rw [List.append_assoc]
        exact ep_head m E n hE _
      · exact ih h2 _ ⟨2, hh⟩ s hs
theorem secs_ep (E n : Int) (hE : I64 E) (t : By) : ∀ s ∈ (secsOf E n t).map padB, ep s = E := by
  intro s hs
  obtain ⟨x, hx, rfl⟩ := List.mem_map.1 hs
  exact cut_ep E n hE _ rfl _ _ _ ⟨1, rfl⟩ x hx
theorem news_ep (E : Int) (hE : I64 E) (T : List By) : ∀ c, ∀ s ∈ news E c T, ep s = E := by
  induction T with
  | nil => intro c s hs; cases hs
  | cons t T ih =>
    intro c s hs
    rw [news] at hs
    rcases List.mem_append.1 hs with hs | hs
    · exact secs_ep E c hE t s hs
    · exact ih _ s hs

/-- A record's front, not all of it. -/
def Partial (E : Int) (c : Nat) (P : List By) : Prop := ∃ t : By, t.length ≤ 300 ∧ ∃ k, k < (secsOf E c t).length ∧ P = ((secsOf E c t).map padB).take k
theorem partial_nil (E : Int) (c : Nat) : Partial E c [] := by
  obtain ⟨f, _, h⟩ := secs_cons E c []
  exact ⟨[], by simp, 0, by rw [h]; simp, by simp⟩
theorem partial_ep {E : Int} (hE : I64 E) {c : Nat} {P : List By} (h : Partial E c P) : ∀ s ∈ P, ep s = E := by
  obtain ⟨t, _, k, _, rfl⟩ := h
  exact fun s hs => secs_ep E c hE t s (List.mem_of_mem_take hs)
theorem partial_none {E : Int} (hE : I64 E) {c : Nat} (hc : I64 c) {P : List By} (h : Partial E c P) : getRec P c = none := by
  obtain ⟨t, ht, k, hk, rfl⟩ := h
  cases hg : getRec (((secsOf E c t).map padB).take k) c with
  | none => rfl
  | some r =>
    exfalso
    obtain ⟨q1, q2, _, _, q5⟩ := rec_local hg
    have a := q5 ((secsOf E c t).map padB ++ []) (by
      rw [List.append_nil, List.take_take]
      congr 1
      rw [List.length_take] at q2
      omega)
    rw [rec_put E c hE hc t ht] at a
    injection a with a
    rw [List.length_take] at q2
    rw [← a] at q2
    simp only at q2
    omega

/-- Each sector is as it was, or the new one. -/
def Mixed (l' l N : List By) : Prop := l'.length = l.length ∧ ∀ (j : Nat) (s : By), l'[j]? = some s → l[j]? = some s ∨ N[j]? = some s
theorem Mixed.drop {l' l N : List By} (h : Mixed l' l N) (k : Nat) : Mixed (l'.drop k) (l.drop k) (N.drop k) := by
  refine ⟨by rw [List.length_drop, List.length_drop, h.1], fun j s hs => ?_⟩
  rw [List.getElem?_drop] at hs ⊢
  rw [List.getElem?_drop]
  exact h.2 _ s hs

theorem take_eq_of {l l' : List By} {k : Nat} (h : ∀ j, j < k → ∃ s, l[j]? = some s ∧ l'[j]? = some s) : l'.take k = l.take k := by
  apply List.ext_getElem?
  intro j
  rw [List.getElem?_take, List.getElem?_take]
  split
  · rename_i hj
    obtain ⟨s, a, b⟩ := h j hj
    rw [a, b]
  · rfl

/-- What is read off mixed sectors is there among the new ones, or among the old ones. -/
theorem mixed_rec {E : Int} {l' l N : List By} (h : Mixed l' l N) (hN : ∀ s ∈ N, ep s = E) (ho : ∀ s ∈ l, ep s < E) {n : Int} {r : Rec} (hr : getRec l' n = some r) :
    (r.epoch = E ∧ getRec N n = some r) ∨ (r.epoch < E ∧ getRec l n = some r) := by
  obtain ⟨q1, q2, q3, _, q5⟩ := rec_local hr
  by_cases he : r.epoch = E
  · refine .inl ⟨he, q5 N (take_eq_of fun j hj => ?_)⟩
    obtain ⟨s, a, b⟩ := q3 j hj
    refine ⟨s, a, ?_⟩
    rcases h.2 j s a with e | e
    · have := ho s (List.mem_of_getElem? e); omega
    · exact e
  · have all : ∀ j, j < r.size → ∃ s, l'[j]? = some s ∧ l[j]? = some s := fun j hj => by
      obtain ⟨s, a, b⟩ := q3 j hj
      refine ⟨s, a, ?_⟩
      rcases h.2 j s a with e | e
      · exact e
      · have := hN s (List.mem_of_getElem? e); omega
    refine .inr ⟨?_, q5 l (take_eq_of all)⟩
    obtain ⟨s, a, b⟩ := all 0 (by omega)
    obtain ⟨s', a', b'⟩ := q3 0 (by omega)
    rw [a] at a'
    injection a' with a'
    subst a'
    have := ho s (List.mem_of_getElem? b)
    omega

/-- GRAY: of new records some at the front are told, and no other. -/
theorem mix {E top : Int} (hE : I64 E) (ht : E ≤ top) : ∀ (T P : List By) (c : Nat) (a : Int) (l l' : List By), (c : Int) + T.length ≤ 9223372036854775807 → (∀ t ∈ T, t.length ≤ 300) → Partial E (c + T.length) P → (∀ s ∈ l, ep s < E) → Mixed l' l (news E c T ++ P) → a ≤ E →
    ((∀ r, getRec l (c : Int) = some r → r.epoch < a) ∨ a = E) →
    ∃ i m, i ≤ T.length ∧ Chain top a c l' (recs E c (T.take i)) m ∧ ∀ r, getRec m ((c + i : Nat) : Int) = some r → r.epoch < lastEp a (recs E c (T.take i)) := by
  intro T
  induction T with
  | nil =>
    intro P c a l l' hc hT hP ho hm ha hs
    refine ⟨0, l', Nat.le_refl _, .nil _ _ _, fun r hr => ?_⟩
    simp only [List.take_nil, recs, lastEp]
    rw [Nat.add_zero] at hr
    simp only [news, List.nil_append, List.length_nil, Nat.add_zero] at hm hP
    rcases mixed_rec hm (partial_ep hE hP) ho hr with ⟨_, e⟩ | ⟨e1, e2⟩
    · rw [partial_none hE (by unfold I64; simp at hc; omega) hP] at e; cases e
    · rcases hs with hs | hs
      · exact hs r e2
      · omega
  | cons t T ih =>
    intro P c a l l' hc hT hP ho hm ha hs
    simp only [List.length_cons] at hc
    have hN : ∀ s ∈ news E c (t :: T) ++ P, ep s = E := fun s hs => by
      rcases List.mem_append.1 hs with e | e
      · exact news_ep E hE _ c s e
      · exact partial_ep hE hP s e
    have stop : (∀ r, getRec l' (c : Int) = some r → r.epoch < a) → ∃ i m, i ≤ (t :: T).length ∧ Chain top a c l' (recs E c ((t :: T).take i)) m ∧ ∀ r, getRec m ((c + i : Nat) : Int) = some r → r.epoch < lastEp a (recs E c ((t :: T).take i)) := fun h => by
      refine ⟨0, l', Nat.zero_le _, .nil _ _ _, fun r hr => ?_⟩
      rw [Nat.add_zero] at hr
      exact h r hr
    cases hg : getRec l' (c : Int) with
    | none => exact stop (fun r hr => by rw [hg] at hr; cases hr)
    | some r =>
      rcases mixed_rec hm hN ho hg with ⟨e1, e2⟩ | ⟨e1, e2⟩
      · have hput := rec_put E c hE (by unfold I64; omega) t (hT t (by simp)) (news E (c + 1) T ++ P)
        rw [news, List.append_assoc] at e2
        rw [hput] at e2
        injection e2 with e2
        subst e2
        have hm' := hm.drop (secsOf E c t).length
        rw [news, List.append_assoc, List.drop_left' (by simp)] at hm'
        obtain ⟨i, m, hi, hch, hst⟩ := ih P (c + 1) E (l.drop (secsOf E c t).length) (l'.drop (secsOf E c t).length) (by omega) (fun x hx => hT x (by simp [hx])) (by rw [show c + 1 + T.length = c + (t :: T).length by simp; omega]; exact hP)
          (fun s hs => ho s (List.mem_of_mem_drop hs)) hm' (Int.le_refl _) (.inr rfl)
        refine ⟨i + 1, m, by simp; omega, ?_, ?_⟩
        · rw [List.take_succ_cons, recs]
          exact .cons hg ha ht hch
        · rw [List.take_succ_cons, recs]
          simp only [lastEp]
          rw [show c + (i + 1) = c + 1 + i by omega]
          exact hst
      · refine stop (fun r' hr' => ?_)
        rw [hg] at hr'
        obtain rfl := Option.some.inj hr'
        rcases hs with hs | hs
        · exact hs r e2
        · omega

/-- Where all new ones are there, all are told. -/
theorem all_new {E top : Int} (hE : I64 E) (ht : E ≤ top) : ∀ (T : List By) (c : Nat) (a : Int) (m : List By), (c : Int) + T.length ≤ 9223372036854775807 → (∀ t ∈ T, t.length ≤ 300) → a ≤ E → Chain top a c (news E c T ++ m) (recs E c T) m := by
  intro T
  induction T with
  | nil => intro c a m _ _ _; exact .nil _ _ _
  | cons t T ih =>
    intro c a m hc hT ha
    simp only [List.length_cons] at hc
    rw [news, List.append_assoc, recs]
    refine .cons (rec_put E c hE (by unfold I64; omega) t (hT t (by simp)) _) ha ht ?_
    rw [List.drop_left' (by simp)]
    exact ih (c + 1) E m (by omega) (fun x hx => hT x (by simp [hx])) (Int.le_refl _)

end Wl
end Go.Proofs.Ythfpinjegfgeiaa
