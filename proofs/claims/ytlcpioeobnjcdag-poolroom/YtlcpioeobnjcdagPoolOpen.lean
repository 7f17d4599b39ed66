/- A slice of numbers that is handed in: what its reading says of the cells. -/
import Derived.Test.YtlcpioeobnjcdagPoolMove
import Derived.ChangeSlices
namespace Go.Proofs.Ytlcpioeobnjcdag.PPool
open Go Go.RowKit Go.ChangeShapes
set_option maxRecDepth 100000

section
variable {H : Type} {enc : TypeId × Value → H} {W : World}
theorem plain_cell {w : World} {a : Addr} {v : Value} (h : w.cell? a = some v) : a = ⟨a.block, a.off, none⟩ := by
  obtain ⟨b, o, s⟩ := a
  cases s with
  | none => rfl
  | some x =>
    unfold World.cell? at h
    split at h <;> simp at h
theorem cells3 : Try.prog.cellsOf 3 = 1 := by kernel_rfl
theorem ints_open {n : Nat} {cs : List Value} {x : DataW H × List MemPlace} (h : DataW.trod enc Try.prog W 0 (fun _ => true) true n 38 cs = some x) :
    ∃ a X c, cs = [.slice a (List.length X) c] ∧ IntsAt W a X ∧ X.length ≤ c := by
  rcases ChangeShapes.open_ints Try.underlying38 Try.underlying3 cells3 h with ⟨rfl, _⟩ | ⟨a, len, cap, zs, rfl, _, hl, _, hz, _, hc, _⟩
  · exact ⟨none, [], 0, rfl, RowAt.nil _ _, Nat.le_refl _⟩
  · simp only [if_true] at hz
    have hlen : (zs.take len).length = len := by rw [List.length_take]; omega
    refine ⟨some a, zs.take len, cap, by rw [hlen], fun j y hj => ?_, by rw [hlen]; exact hl⟩
    rw [List.getElem?_take] at hj
    split at hj
    · rename_i hjl
      have h0 := hc 0 (by omega)
      have hc := hc j (by omega)
      rw [List.getD_eq_getElem?_getD, hj, Option.getD_some] at hc
      have hp : a = ⟨a.block, a.off, none⟩ := by
        have e : a.add 0 = a := by simp [Addr.add]
        rw [e] at h0
        exact plain_cell h0
      rw [hp, Addr.add_mid] at hc
      exact ⟨a.block, a.off, by rw [← hp], hc⟩
    · cases hj
end

end Go.Proofs.Ytlcpioeobnjcdag.PPool
