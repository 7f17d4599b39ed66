/- A row of operations that is written out; the cells of a row of operations one behind another. -/
import Derived.Test.YtlalpahfoafhoabRunMem
namespace Go.Proofs.Ytlalpahfoafhoab.PRun
open Go Go.RowKit PPool PGraph
set_option maxRecDepth 100000

/-- A row whose cells are the operations', as it has just been made. -/
theorem row_at (w : World) (X : List Rn.Op) (C : Array Value) (T : TypeId) (hC : C = (X.flatMap so).toArray) : OpAt (w.alloc (.cells C T)) (some ⟨w.heap.size, 0, none⟩) X := fun j x hj => by
  have cell : ∀ (d : Nat) (v : Value), (so x)[d]? = some v → (w.alloc (.cells C T)).cell? ⟨w.heap.size, 0 + j * 3 + d, none⟩ = some v := fun d v hd => by
    rw [cell_of_row _ _ _ _ _ _ (heap_alloc_new w _), hC, Nat.zero_add]
    simpa using flat_at (enc := so) (c := 3) X (fun x _ => so_len x) j x hj d v hd
  exact ⟨_, _, rfl, cell 0 _ rfl, cell 1 _ rfl, cell 2 _ rfl⟩
theorem OpAt.flat {w : World} {b o : Nat} {X : List Rn.Op} (h : OpAt w (some ⟨b, o, none⟩) X) : ∀ j u, (X.flatMap so)[j]? = some u → w.cell? ((⟨b, o, none⟩ : Addr).add j) = some u := by
  intro j u hj
  have hjl := (List.getElem?_eq_some_iff.1 hj).1
  rw [op_len] at hjl
  obtain ⟨x, hx⟩ : ∃ x, X[j / 3]? = some x := ⟨_, List.getElem?_eq_getElem (by omega)⟩
  obtain ⟨b', o', e, h0, h1, h2⟩ := h _ x hx
  injection e with e
  injection e with e1 e2
  subst e1; subst e2
  rw [Addr.add_mid]
  have at_ : ∀ r v, (so x)[r]? = some v → j % 3 = r → u = v := fun r v hv hr => by
    have := flat_at (enc := so) (c := 3) X (fun x _ => so_len x) (j / 3) x hx r v hv
    rw [show j / 3 * 3 + r = j by omega, hj] at this
    exact Option.some.inj this
  have hm : j % 3 = 0 ∨ j % 3 = 1 ∨ j % 3 = 2 := by omega
  rcases hm with hm | hm | hm
  · rw [at_ 0 _ rfl hm, show o + j = o + j / 3 * 3 by omega]; exact h0
  · rw [at_ 1 _ rfl hm, show o + j = o + j / 3 * 3 + 1 by omega]; exact h1
  · rw [at_ 2 _ rfl hm, show o + j = o + j / 3 * 3 + 2 by omega]; exact h2

end Go.Proofs.Ytlalpahfoafhoab.PRun
