/- What a call on a tree leaves of the nodes beside it: its contract, laid at its own nodes alone, serves beside others. -/
import Derived.Test.YtlefcjgemojhpabTreeTake
namespace Go.Proofs.Ytlefcjgemojhpab.PTree
open Go Go.RowKit PPool
set_option maxRecDepth 100000
def Lab.only (o : Lab) (A : List Nat) : Lab := fun k => match o k with
  | some (q, i) => if q ∈ A then some (q, i) else none
  | none => none
def Sto.only (M : Sto) (A : List Nat) : Sto := fun q => if q ∈ A then M q else none
theorem only_in {o : Lab} {A : List Nat} {k q i : Nat} (h : o k = some (q, i)) (hq : q ∈ A) : o.only A k = some (q, i) := by simp [Lab.only, h, hq]
theorem only_out {o : Lab} {A : List Nat} {k q i : Nat} (h : o k = some (q, i)) (hq : q ∉ A) : o.only A k = none := by simp [Lab.only, h, hq]
theorem only_some {o : Lab} {A : List Nat} {k : Nat} {x : Nat × Nat} (h : o.only A k = some x) : o k = some x ∧ x.1 ∈ A := by
  unfold Lab.only at h
  cases e : o k with
  | none => rw [e] at h; cases h
  | some y =>
    obtain ⟨q, i⟩ := y
    rw [e] at h
    by_cases hq : q ∈ A
    · simp [hq] at h
      subst h
      exact ⟨rfl, hq⟩
    · simp [hq] at h
theorem Mem.only {w : World} {o : Lab} {M : Sto} (h : Mem w o M) (A : List Nat) : Mem w (o.only A) (M.only A) where
  at_ := fun p n hp => by
    have hA : p ∈ A := by
      by_cases e : p ∈ A
      · exact e
      · simp [Sto.only, e] at hp
    have hp' : M p = some n := by simpa [Sto.only, hA] using hp
    obtain ⟨ve, vb, h1, h2, h3, h4, h5, h6⟩ := h.at_ p n hp'
    exact ⟨ve, vb, h1, only_in h2 hA, h3, h4, fun g hg => only_in (h5 g hg) hA, fun g hg => only_in (h6 g hg) hA⟩
  lt := fun k hk => by
    cases e : o.only A k with
    | none => exact absurd e hk
    | some x => exact h.lt k (by rw [(only_some e).1]; simp)
theorem Tr.only {h : Nat} {M : Sto} {p : Nat} {n : Nd} {A : List Nat} (t : Tr h M p n A) : Tr h (M.only A) p n A := t.keep fun q hq => by simp [Sto.only, hq]
/-- What was there beside, and what the call left. -/
def Lab.with (o o' : Lab) (A : List Nat) : Lab := fun k => match o' k with
  | some x => some x
  | none => match o k with
    | some (q, i) => if q ∈ A then none else some (q, i)
    | none => none
def Sto.with (M M' : Sto) (A : List Nat) : Sto := fun q => match M' q with
  | some n => some n
  | none => if q ∈ A then none else M q
theorem frame {h : Nat} {w w' : World} {o o' : Lab} {M M' : Sto} {p : Nat} {n' : Nd} {A A' : List Nat} (hM : Mem w o M) (m : Mem w' o' M') (g : Gos (o.only A) w w' o') (s : Stp h w.heap.size (M.only A) M' p n' A A') :
    Mem w' (o.with o' A) (M.with M' A) ∧ Gos o w w' (o.with o' A) ∧ Stp h w.heap.size M (M.with M' A) p n' A A' ∧ ∀ k q i, o k = some (q, i) → q ∉ A → w'.heap[k]? = w.heap[k]? ∧ (o.with o' A) k = some (q, i) := by
  have keep : ∀ k q i, o k = some (q, i) → q ∉ A → w'.heap[k]? = w.heap[k]? ∧ (o.with o' A) k = some (q, i) := fun k q i hk hq => by
    have hlt := hM.lt k (by rw [hk]; simp)
    have hn := only_out hk hq
    refine ⟨g.block k hlt (fun e => e hn), ?_⟩
    have ho' : o' k = none := goes_none g hn hlt
    simp [Lab.with, ho', hk, hq]
  have new : ∀ k x, o' k = some x → (o.with o' A) k = some x := fun k x hx => by simp [Lab.with, hx]
  refine ⟨⟨fun q m' hq => ?_, fun k hk => ?_⟩, ⟨⟨g.os, g.tape, g.output, g.size, fun k hk hn => g.block k hk fun e => hn ?_, fun k hk => ?_⟩, fun q off hq hl ho => ?_, fun q hq => ?_, fun q off hq hl => ?_⟩, ⟨?_, s.nd, s.sub, fun q hq hS => ?_⟩, keep⟩
  · cases e : M' q with
    | some n2 =>
      have : m' = n2 := by simp [Sto.with, e] at hq; exact hq.symm
      subst this
      obtain ⟨ve, vb, h1, h2, h3, h4, h5, h6⟩ := m.at_ q _ e
      exact ⟨ve, vb, h1, new _ _ h2, h3, h4, fun g hg => new _ _ (h5 g hg), fun g hg => new _ _ (h6 g hg)⟩
    | none =>
      have hA : q ∉ A := fun hA => by simp [Sto.with, e, hA] at hq
      have hq' : M q = some m' := by simpa [Sto.with, e, hA] using hq
      obtain ⟨ve, vb, h1, h2, h3, h4, h5, h6⟩ := hM.at_ q m' hq'
      exact ⟨ve, vb, h1.keep (keep _ _ _ h2 hA).1, (keep _ _ _ h2 hA).2, h3.keep fun g hg => (keep _ _ _ (h5 g hg) hA).1, h4.keep fun g hg => (keep _ _ _ (h6 g hg) hA).1, fun g hg => (keep _ _ _ (h5 g hg) hA).2, fun g hg => (keep _ _ _ (h6 g hg) hA).2⟩
  · cases e : o' k with
    | some x => exact m.lt k (by rw [e]; simp)
    | none =>
      refine Nat.lt_of_lt_of_le (hM.lt k fun e2 => hk ?_) g.size
      simp [Lab.with, e, e2]
  · cases e2 : o.only A k with
    | none => exact absurd e2 e
    | some x => show o k ≠ none; rw [(only_some e2).1]; simp
  · cases e : o' k with
    | some x =>
      rcases g.grow k (by show o' k ≠ none; rw [e]; simp) with h1 | h1
      · left
        cases e2 : o.only A k with
        | none => exact absurd e2 h1
        | some x => show o k ≠ none; rw [(only_some e2).1]; simp
      · exact .inr h1
    | none =>
      left
      intro e2
      exact hk (by simp [Lab.with, e, e2])
  · by_cases hA : q ∈ A
    · exact g.rest q off (only_in hq hA) hl ho
    · exact World.cell?_of_block (a := ⟨q, off, none⟩) (keep q q 0 hq hA).1
  · by_cases hA : q ∈ A
    · exact new _ _ (g.own q (only_in hq hA))
    · exact (keep q q 0 hq hA).2
  · by_cases hA : q ∈ A
    · exact g.frz q off (only_in hq hA) hl
    · exact frozen_of_block (a := ⟨q, off, none⟩) (keep q q 0 hq hA).1
  · exact s.tr.keep fun q hq => by
      cases e : M' q with
      | none => exact absurd e (tr_some s.tr q hq)
      | some n => simp [Sto.with, e]
  · have h1 := s.off q hq hS
    have h2 : M' q = none := by rw [h1]; simp [Sto.only, hq]
    simp [Sto.with, h2, hq]
end Go.Proofs.Ytlefcjgemojhpab.PTree
