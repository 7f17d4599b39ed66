/- A slice of numbers that is handed in: what its reading says of the cells. -/
import Derived.Test.YtlcpioeobnjcdaaPoolMove
import Derived.ChangeSlices
namespace Go.Proofs.Ytlcpioeobnjcdaa.PPool
open Go Go.RowKit Go.ChangeShapes
set_option maxRecDepth 100000

section
variable {H : Type} {enc : TypeId × Value → H} {W : World}
theorem plain_cell {w : World} {a : Addr} {v : Value} (h : w.cell? a = some v) : a = ⟨a.block, a.off, none⟩ := by
  obtain ⟨b, o, s⟩ := a
  cases s with
  | none => rfl
  | some x =>
    unfold World.cell? at h
    split at h <;> simp at h
theorem cells3 : Try.prog.cellsOf 3 = 1 := by kernel_rfl
theorem ints_open_wf {n : Nat} {cs : List Value} {x : DataW H × List MemPlace} (h : DataW.trod enc Try.prog W 0 (fun _ => true) true n 55 cs = some x) :
    ∃ a X c, cs = [.slice a (List.length X) c] ∧ IntsAt W a X ∧ X.length ≤ c ∧ (∀ y ∈ X, (Lit.int .i64 y).wf = true) := by
  rcases ChangeShapes.open_ints Try.underlying55 Try.underlying3 cells3 h with ⟨rfl, _⟩ | ⟨a, len, cap, zs, rfl, _, hl, _, hz, _, hc, hwf⟩
  · exact ⟨none, [], 0, rfl, RowAt.nil _ _, Nat.le_refl _, fun _ h => by simp at h⟩
  · simp only [if_true] at hz
    have hlen : (zs.take len).length = len := by rw [List.length_take]; omega
    refine ⟨some a, zs.take len, cap, by rw [hlen], fun j y hj => ?_, by rw [hlen]; exact hl, fun y hy => hwf y (List.mem_of_mem_take hy)⟩
    rw [List.getElem?_take] at hj
    split at hj
    · rename_i hjl
      have h0 := hc 0 (by omega)
      have hc := hc j (by omega)
      rw [List.getD_eq_getElem?_getD, hj, Option.getD_some] at hc
      have hp : a = ⟨a.block, a.off, none⟩ := by
        have e : a.add 0 = a := by simp [Addr.add]
        rw [e] at h0
        exact plain_cell h0
      rw [hp, Addr.add_mid] at hc
      exact ⟨a.block, a.off, by rw [← hp], hc⟩
    · cases hj
theorem ints_open {n : Nat} {cs : List Value} {x : DataW H × List MemPlace} (h : DataW.trod enc Try.prog W 0 (fun _ => true) true n 55 cs = some x) :
    ∃ a X c, cs = [.slice a (List.length X) c] ∧ IntsAt W a X ∧ X.length ≤ c := by
  obtain ⟨a, X, c, h1, h2, h3, _⟩ := ints_open_wf h
  exact ⟨a, X, c, h1, h2, h3⟩
end

end Go.Proofs.Ytlcpioeobnjcdaa.PPool
