/- A tree's top in memory: what a new top over the old one, and a top that takes in its one child, leave of the store of nodes. -/
import Derived.Test.YtlefcjgemojhpabTreeDrop
namespace Go.Proofs.Ytlefcjgemojhpab.PTree
open Go Go.RowKit PPool
set_option maxRecDepth 100000
theorem mem_grow {w w2 : World} {o : Lab} {M : Sto} (h : Mem w o M) {t q g : Nat} {n : Nn} {ve vb vt : Value} (hp : M t = some n) (c0 : w.cell? ⟨t, 0, none⟩ = some ve) (c1 : w.cell? ⟨t, 1, none⟩ = some vb) (hq : w.heap.size ≤ q) (hg : w.heap.size ≤ g) (hqg : q ≠ g)
    (hs : w.heap.size ≤ w2.heap.size) (hos : w2.os = w.os) (htp : w2.tape = w.tape) (hou : w2.output = w.output) (hk : ∀ k, k < w.heap.size → k ≠ t → w2.heap[k]? = w.heap[k]?) (hr : ∀ off, 2 ≤ off → w2.cell? ⟨t, off, none⟩ = w.cell? ⟨t, off, none⟩) (hf : ∀ off, w2.frozen? ⟨t, off, none⟩ = w.frozen? ⟨t, off, none⟩)
    (nq : NodeAt w2 q ve vb) (nt : NodeAt w2 t (.slice none 0 0) vt) (hvt : ∀ k, vt.ownBlock = some k → k = g) (rt : TP.OwnPg w2 0 vt ([q].map pt)) :
    ∃ o', Mem w2 o' ((M.put q n).put t ⟨[], [q]⟩) ∧ Gos o w w2 o' := by
  obtain ⟨ve', vb', h1, h2, h3, h4, h5, h6⟩ := h.at_ t n hp
  obtain rfl : ve' = ve := by rw [h1.c0] at c0; exact Option.some.inj c0
  obtain rfl : vb' = vb := by rw [h1.c1] at c1; exact Option.some.inj c1
  have htl := h.lt_of hp
  have ltE : ∀ k, ve'.ownBlock = some k → k < w.heap.size := fun k hk => h.lt k (by rw [h5 k hk]; simp)
  have ltB : ∀ k, vb'.ownBlock = some k → k < w.heap.size := fun k hk => h.lt k (by rw [h6 k hk]; simp)
  let o' : Lab := fun k => if k = q then some (q, 0) else if k = g then some (t, 2) else if ve'.ownBlock = some k then some (q, 1) else if vb'.ownBlock = some k then some (q, 2) else o k
  have old : ∀ k p i, o k = some (p, i) → p ≠ t → o' k = some (p, i) ∧ w2.heap[k]? = w.heap[k]? := fun k p i hk' hpt => by
    have hlt := h.lt k (by rw [hk']; simp)
    refine ⟨?_, hk k hlt fun e => ?_⟩
    · show (if _ then _ else if _ then _ else if _ then _ else if _ then _ else _) = _
      rw [if_neg (by omega), if_neg (by omega), if_neg (fun e => by rw [h5 k e] at hk'; cases hk'; exact hpt rfl), if_neg (fun e => by rw [h6 k e] at hk'; cases hk'; exact hpt rfl)]
      exact hk'
    · subst e
      rw [h2] at hk'
      cases hk'
      exact hpt rfl
  have lq : o' q = some (q, 0) := if_pos rfl
  have lg : o' g = some (t, 2) := by
    show (if _ then _ else if _ then _ else _) = _
    rw [if_neg (Ne.symm hqg), if_pos rfl]
  have lE : ∀ k, ve'.ownBlock = some k → o' k = some (q, 1) := fun k e => by
    have := ltE k e
    show (if _ then _ else if _ then _ else if _ then _ else _) = _
    rw [if_neg (by omega), if_neg (by omega), if_pos e]
  have lB : ∀ k, vb'.ownBlock = some k → o' k = some (q, 2) := fun k e => by
    have := ltB k e
    show (if _ then _ else if _ then _ else if _ then _ else if _ then _ else _) = _
    rw [if_neg (by omega), if_neg (by omega), if_neg (fun e2 => by have h7 := h5 k e2; rw [h6 k e] at h7; cases h7), if_pos e]
  have lt' : o' t = some (t, 0) := by
    show (if _ then _ else if _ then _ else if _ then _ else if _ then _ else _) = _
    rw [if_neg (by omega), if_neg (by omega), if_neg (fun e => by have := h5 t e; rw [h2] at this; cases this), if_neg (fun e => by have := h6 t e; rw [h2] at this; cases this)]
    exact h2
  have bE : ∀ k, ve'.ownBlock = some k → w2.heap[k]? = w.heap[k]? := fun k e => hk k (ltE k e) fun e2 => by subst e2; have := h5 _ e; rw [h2] at this; cases this
  have bB : ∀ k, vb'.ownBlock = some k → w2.heap[k]? = w.heap[k]? := fun k e => hk k (ltB k e) fun e2 => by subst e2; have := h6 _ e; rw [h2] at this; cases this
  refine ⟨o', ⟨fun p m hm => ?_, fun k hk' => ?_⟩, ⟨⟨hos, htp, hou, hs, fun k hk1 hk2 => hk k hk1 fun e => hk2 (by subst e; show o k ≠ none; rw [h2]; simp), fun k hk' => ?_⟩, fun p off hp' hl ho => ?_, fun p hp' => ?_, fun p off hp' hl => ?_⟩⟩
  · by_cases e1 : p = t
    · subst e1
      rw [Sto.put_at] at hm
      cases hm
      exact ⟨_, vt, nt, lt', TE.OwnPg.nil _ _, rt, fun k hk3 => (by cases hk3), fun k hk3 => (by have e := hvt k hk3; subst e; exact lg)⟩
    · rw [Sto.put_ne _ _ e1] at hm
      by_cases e2 : p = q
      · subst e2
        rw [Sto.put_at] at hm
        cases hm
        exact ⟨ve', vb', nq, lq, h3.keep bE, h4.keep bB, lE, lB⟩
      · rw [Sto.put_ne _ _ e2] at hm
        obtain ⟨xe, xb, k1, k2, k3, k4, k5, k6⟩ := h.at_ p m hm
        exact ⟨xe, xb, k1.keep (old _ _ _ k2 e1).2, (old _ _ _ k2 e1).1, k3.keep fun g' hg' => (old _ _ _ (k5 g' hg') e1).2, k4.keep fun g' hg' => (old _ _ _ (k6 g' hg') e1).2, fun g' hg' => (old _ _ _ (k5 g' hg') e1).1, fun g' hg' => (old _ _ _ (k6 g' hg') e1).1⟩
  · by_cases e1 : k = q
    · rw [e1]; exact nq.lt
    · by_cases e2 : k = g
      · rw [e2]
        obtain ⟨g', c', e, _⟩ := TP.OwnPg.some rt (by simp)
        have : vt.ownBlock = some g' := by rw [e]; rfl
        rw [← hvt g' this]
        exact (rt.lt g' this).2
      · have : o' k ≠ none → k < w.heap.size := fun hk' => by
          by_cases e3 : ve'.ownBlock = some k
          · exact ltE k e3
          · by_cases e4 : vb'.ownBlock = some k
            · exact ltB k e4
            · refine h.lt k fun e5 => hk' ?_
              show (if _ then _ else if _ then _ else if _ then _ else if _ then _ else _) = _
              rw [if_neg e1, if_neg e2, if_neg e3, if_neg e4]; exact e5
        exact Nat.lt_of_lt_of_le (this hk') hs
  · by_cases e1 : k = q
    · right; omega
    · by_cases e2 : k = g
      · right; omega
      · left
        intro e5
        refine hk' ?_
        show (if _ then _ else if _ then _ else if _ then _ else if _ then _ else _) = _
        rw [if_neg e1, if_neg e2, if_neg (fun e => by rw [h5 k e] at e5; cases e5), if_neg (fun e => by rw [h6 k e] at e5; cases e5)]
        exact e5
  · by_cases e1 : p = t
    · subst e1; exact hr off ho
    · exact World.cell?_of_block (a := ⟨p, off, none⟩) (old p p 0 hp' e1).2
  · by_cases e1 : p = t
    · rw [e1]; exact lt'
    · exact (old p p 0 hp' e1).1
  · by_cases e1 : p = t
    · subst e1; exact hf off
    · exact frozen_of_block (a := ⟨p, off, none⟩) (old p p 0 hp' e1).2
theorem mem_shrink {w w2 : World} {o : Lab} {M : Sto} (h : Mem w o M) {t c : Nat} {nt n : Nn} {ve vb : Value} (ht : M t = some nt) (hc : M c = some n) (htc : t ≠ c) (c0 : w.cell? ⟨c, 0, none⟩ = some ve) (c1 : w.cell? ⟨c, 1, none⟩ = some vb)
    (hs : w2.heap.size = w.heap.size) (hos : w2.os = w.os) (htp : w2.tape = w.tape) (hou : w2.output = w.output) (hk : ∀ k, k ≠ t → w2.heap[k]? = w.heap[k]?) (hr : ∀ off, 2 ≤ off → w2.cell? ⟨t, off, none⟩ = w.cell? ⟨t, off, none⟩) (hf : ∀ off, w2.frozen? ⟨t, off, none⟩ = w.frozen? ⟨t, off, none⟩)
    (hn : NodeAt w2 t ve vb) : ∃ o', Mem w2 o' (fun q => if q = t then some n else if q = c then none else M q) ∧ Gos o w w2 o' := by
  obtain ⟨ve', vb', h1, h2, h3, h4, h5, h6⟩ := h.at_ c n hc
  obtain rfl : ve' = ve := by rw [h1.c0] at c0; exact Option.some.inj c0
  obtain rfl : vb' = vb := by rw [h1.c1] at c1; exact Option.some.inj c1
  obtain ⟨_, _, _, t2, _⟩ := h.at_ t nt ht
  let o' : Lab := fun k => if ve'.ownBlock = some k then some (t, 1) else if vb'.ownBlock = some k then some (t, 2) else o k
  have old : ∀ k p i, o k = some (p, i) → (p ≠ c ∨ i = 0) → o' k = some (p, i) := fun k p i hk' hpc => by
    show (if _ then _ else if _ then _ else _) = _
    rw [if_neg (fun e => by rw [h5 k e] at hk'; cases hk'; rcases hpc with e | e; exact e rfl; cases e), if_neg (fun e => by rw [h6 k e] at hk'; cases hk'; rcases hpc with e | e; exact e rfl; cases e)]
    exact hk'
  have lE : ∀ k, ve'.ownBlock = some k → o' k = some (t, 1) := fun k e => if_pos e
  have lB : ∀ k, vb'.ownBlock = some k → o' k = some (t, 2) := fun k e => by
    show (if _ then _ else if _ then _ else _) = _
    rw [if_neg (fun e2 => by have h7 := h5 k e2; rw [h6 k e] at h7; cases h7), if_pos e]
  have bO : ∀ k p i, o k = some (p, i) → (p ≠ t ∨ i ≠ 0) → w2.heap[k]? = w.heap[k]? := fun k p i hk' hpt => hk k fun e => by
    subst e
    rw [t2] at hk'
    cases hk'
    rcases hpt with e | e <;> exact e rfl
  have dm : ∀ k, o' k ≠ none → o k ≠ none := fun k hk' e => by
    refine hk' ?_
    show (if _ then _ else if _ then _ else _) = _
    rw [if_neg (fun e2 => by rw [h5 k e2] at e; cases e), if_neg (fun e2 => by rw [h6 k e2] at e; cases e)]
    exact e
  refine ⟨o', ⟨fun p m hm => ?_, fun k hk' => by rw [hs]; exact h.lt k (dm k hk')⟩, ⟨⟨hos, htp, hou, Nat.le_of_eq hs.symm, fun k _ hk2 => hk k fun e => hk2 (by subst e; show o k ≠ none; rw [t2]; simp), fun k hk' => .inl (dm k hk')⟩, fun p off hp' hl ho => ?_, fun p hp' => old p p 0 hp' (.inr rfl), fun p off hp' hl => ?_⟩⟩
  · by_cases e1 : p = t
    · rw [if_pos e1] at hm
      cases hm
      subst e1
      exact ⟨ve', vb', hn, old _ _ _ t2 (.inr rfl), h3.keep fun g' hg' => bO _ _ _ (h5 g' hg') (.inl (Ne.symm htc)), h4.keep fun g' hg' => bO _ _ _ (h6 g' hg') (.inl (Ne.symm htc)), lE, lB⟩
    · rw [if_neg e1] at hm
      by_cases e2 : p = c
      · rw [if_pos e2] at hm; cases hm
      · rw [if_neg e2] at hm
        obtain ⟨xe, xb, k1, k2, k3, k4, k5, k6⟩ := h.at_ p m hm
        exact ⟨xe, xb, k1.keep (bO _ _ _ k2 (.inl e1)), old _ _ _ k2 (.inl e2), k3.keep fun g' hg' => bO _ _ _ (k5 g' hg') (.inl e1), k4.keep fun g' hg' => bO _ _ _ (k6 g' hg') (.inl e1), fun g' hg' => old _ _ _ (k5 g' hg') (.inl e2), fun g' hg' => old _ _ _ (k6 g' hg') (.inl e2)⟩
  · by_cases e1 : p = t
    · subst e1; exact hr off ho
    · exact World.cell?_of_block (a := ⟨p, off, none⟩) (bO p p 0 hp' (.inl e1))
  · by_cases e1 : p = t
    · subst e1; exact hf off
    · exact frozen_of_block (a := ⟨p, off, none⟩) (bO p p 0 hp' (.inl e1))
end Go.Proofs.Ytlefcjgemojhpab.PTree
