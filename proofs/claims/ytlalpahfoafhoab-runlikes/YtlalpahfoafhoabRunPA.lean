/- Squares of twelve times twelve, as one value in memory: a cell, a row, a store. -/
import Derived.Test.YtlalpahfoafhoabRunCk
namespace Go.Proofs.Ytlalpahfoafhoab.PRun
open Go Go.RowKit PPool PGraph
set_option maxRecDepth 100000

theorem pA_at (R : Nat → Nat → Bool) {s t : Nat} (hs : s < 12) (ht : t < 12) : (pA R)[s * 12 + t]? = some (.bool (R s t)) := by
  unfold pA
  rw [List.getElem?_toArray]
  have h1 : (List.range 12)[s]? = some s := by rw [List.getElem?_range hs]
  exact flat_at (enc := fun s => (List.range 12).map fun t => Value.bool (R s t)) (c := 12) (List.range 12) (fun x _ => by simp) s s h1 t (.bool (R s t)) (by simp [ht])
theorem pA_out (R : Nat → Nat → Bool) {j : Nat} (h : 144 ≤ j) : (pA R)[j]? = none := Array.getElem?_eq_none (by rw [pA_size]; exact h)
def lay (R : Nat → Nat → Bool) (s t : Nat) (v : Bool) : Nat → Nat → Bool := fun a b => if a = s ∧ b = t then v else R a b
theorem pA_set (R : Nat → Nat → Bool) {s t : Nat} (hs : s < 12) (ht : t < 12) (v : Bool) : (pA R).setIfInBounds (s * 12 + t) (.bool v) = pA (lay R s t v) := by
  apply Array.ext_getElem?
  intro j
  rw [Array.getElem?_setIfInBounds]
  by_cases hj : j < 144
  · have e : j = j / 12 * 12 + j % 12 := by omega
    have h1 : j / 12 < 12 := by omega
    have h2 : j % 12 < 12 := by omega
    by_cases hjj : s * 12 + t = j
    · have e1 : j / 12 = s := by omega
      have e2 : j % 12 = t := by omega
      rw [if_pos hjj, if_pos (by rw [pA_size]; omega), ← hjj, pA_at _ hs ht]
      unfold lay
      rw [if_pos ⟨rfl, rfl⟩]
    · rw [if_neg hjj, e, pA_at _ h1 h2, pA_at _ h1 h2]
      unfold lay
      rw [if_neg (by omega)]
  · rw [pA_out _ (by omega), pA_out _ (by omega)]
    split
    · rw [if_neg (by rw [pA_size]; omega)]
    · rfl
theorem pA_row {R : Nat → Nat → Bool} {s : Nat} (hs : s < 12) {W : World} {b : Nat} (h : ArrAt W b (pA R)) : W.rangeAt b (s * 12) (bA (R s)).toList := fun j v hv => by
  have hj : j < 12 := by
    have := (List.getElem?_eq_some_iff.1 hv).1
    rwa [Array.length_toList, bA_size] at this
  rw [Array.getElem?_toList, bA_at _ hj] at hv
  injection hv with hv
  rw [← hv]
  exact h.cell (pA_at R hs hj)

theorem ArrAt.lt {W : World} {b : Nat} {A : Array Value} (h : ArrAt W b A) : b < W.heap.size := by
  obtain ⟨T, h⟩ := h
  exact (Array.getElem?_eq_some_iff.1 h).1
theorem ArrAt.drew {W : World} {b : Nat} {A : Array Value} (h : ArrAt W b A) : ArrAt W.drew b A := h
theorem ArrAt.apart {W : World} {b g : Nat} {A : Array Value} (h : ArrAt W b A) (hne : b ≠ g) (i : Nat) (v : Value) : ArrAt (W.setCell ⟨g, i, none⟩ v) b A :=
  h.keep (Below.heap_setCell _ _ _ _ hne)
end Go.Proofs.Ytlalpahfoafhoab.PRun
