/- A list of operations, a list of numbers that is handed in: what its reading says of the cells, and of the sizes. -/
import Derived.Test.YtjoaedkgjnchoacRunMem
import Derived.Test.YtjoaedkgjnchoacRows
import Derived.Deep.Grids
import Derived.Deep.Strs
import Derived.ChangeSame
import Derived.ChangeSlices
import Derived.SizedLaws
namespace Go.Proofs.Ytjoaedkgjnchoac.PRun
open Go Go.RowKit Go.Deep Go.ChangeShapes PPool PGraph
set_option maxRecDepth 100000

section
variable {H : Type} {enc : TypeId × Value → H} {W : World}

theorem plain_cell {w : World} {a : Addr} {v : Value} (h : w.cell? a = some v) : a = ⟨a.block, a.off, none⟩ := by
  obtain ⟨b, o, s⟩ := a
  cases s with
  | none => rfl
  | some x =>
    unfold World.cell? at h
    split at h <;> simp at h

theorem cellsS : Try.prog.cellsOf 51 = 3 := by kernel_rfl
theorem bytesS : Try.prog.bytesOf 51 = 24 := by kernel_rfl
theorem cells3 : Try.prog.cellsOf 3 = 1 := by kernel_rfl
theorem op_open {n : Nat} {cs : List Value} {x : DataW H × List MemPlace} (h : DataW.trod enc Try.prog W 0 (fun _ => true) true n 51 cs = some x) :
    ∃ s : Rn.Op, cs = [.int .i64 s.x, .int .i64 s.k, .int .i64 s.i] := by
  obtain ⟨y0, y1, y2, m, hx, hl, h0, h1, h2⟩ := trod_struct3 Try.underlying51 h
  rw [cellsS] at hl
  match cs, hl with
  | [c0, c1, c2], _ =>
    have f0 : DataW.trod enc Try.prog W 0 (fun _ => true) true m 3 [c0] = some y0 := by
      have e := h0
      rw [cells3] at e
      exact e
    have f1 : DataW.trod enc Try.prog W 0 (fun _ => true) true m 3 [c1] = some y1 := by
      have e := h1
      rw [cells3] at e
      exact e
    have f2 : DataW.trod enc Try.prog W 0 (fun _ => true) true m 3 [c2] = some y2 := by
      have e := h2
      rw [cells3] at e
      exact e
    obtain ⟨u, e0, _⟩ := DataW.trod_int Try.underlying3 f0
    obtain ⟨s, e1, _⟩ := DataW.trod_int Try.underlying3 f1
    obtain ⟨r, e2, _⟩ := DataW.trod_int Try.underlying3 f2
    injection e0 with e0 _
    injection e1 with e1 _
    injection e2 with e2 _
    exact ⟨⟨u, s, r⟩, by rw [e0, e1, e2]⟩

theorem ops_open {n : Nat} {cs : List Value} {x : DataW H × List MemPlace} (h : DataW.trod enc Try.prog W 0 (fun _ => true) true n 49 cs = some x) :
    ∃ da X dc, cs = [.slice da (List.length X) dc] ∧ OpAt W da X ∧ X.length ≤ dc ∧ ((∀ m ∈ x.1.weights Try.prog 49, m ≤ reachBytes) → X.length * 24 ≤ reachBytes) := by
  rcases open_slice Try.underlying49 h with ⟨rfl, _⟩ | ⟨a, len, cap, m, n', D, Pl, rfl, _, hl, _, hm, hx, hc⟩
  · exact ⟨none, [], 0, rfl, OpAt.nil _ _, Nat.le_refl 0, by simp⟩
  · simp only [if_true] at hm
    rw [cellsS] at hc
    obtain ⟨V, hV⟩ := choose_lt (α := Rn.Op) (n := m) (p := fun i s => (∀ j, j < 3 → W.cell? ((a.add (i * 3)).add j) = [Value.int .i64 s.x, .int .i64 s.k, .int .i64 s.i][j]?)) (fun i hi => by
      obtain ⟨cs', h1, h2⟩ := hc i hi
      obtain ⟨s, rfl⟩ := op_open h2
      exact ⟨s, (World.cells?_some h1).2.2⟩)
    refine ⟨some a, (List.range len).map V, cap, by simp, fun j s hj => ?_, by rw [List.length_map, List.length_range]; exact hl, ?_⟩
    · rw [List.getElem?_map] at hj
      cases hr : (List.range len)[j]? with
      | none => rw [hr] at hj; cases hj
      | some k =>
        rw [hr] at hj
        obtain ⟨h1, h2⟩ := List.getElem?_eq_some_iff.1 hr
        simp at h1 h2
        subst h2
        simp at hj
        subst hj
        have hcj := hV j (by omega)
        have h0 := hV 0 (by omega) 0 (by omega)
        have ea := plain_cell (by simpa [Addr.add] using h0)
        rw [ea, Addr.add_mid] at hcj
        have c0 := hcj 0 (by omega)
        have c1 := hcj 1 (by omega)
        have c2 := hcj 2 (by omega)
        rw [Addr.add_mid] at c0 c1 c2
        exact ⟨a.block, a.off, by rw [← ea], c0, c1, c2⟩
    · intro hw
      have := hw ((len + (m - len)) * 24) (by
        rw [hx]
        simp only [DataW.weights, Try.underlying49, bytesS, List.length_map, List.length_range]
        exact List.mem_cons_self)
      rw [List.length_map, List.length_range]
      omega
theorem ints_openR {n : Nat} {cs : List Value} {x : DataW H × List MemPlace} (h : DataW.trod enc Try.prog W 0 (fun _ => true) true n 34 cs = some x) :
    ∃ a X c, cs = [.slice a (List.length X) c] ∧ RowAt (Value.int .i64) W a X ∧ X.length ≤ c ∧ (∀ y ∈ X, (Lit.int .i64 y).wf = true) ∧ X.length ≤ 9223372036854775807 := by
  rcases ChangeShapes.open_ints Try.underlying34 Try.underlying3 cells3 h with ⟨rfl, _⟩ | ⟨a, len, cap, zs, rfl, _, hl, hmax, hz, _, hc, hwf⟩
  · exact ⟨none, [], 0, rfl, RowAt.nil _ _, Nat.le_refl _, (fun _ h => by simp at h), by simp⟩
  · simp only [if_true] at hz
    have hlen : (zs.take len).length = len := by rw [List.length_take]; omega
    refine ⟨some a, zs.take len, cap, by rw [hlen], fun j y hj => ?_, by rw [hlen]; exact hl, (fun y hy => hwf y (List.mem_of_mem_take hy)), by rw [hlen]; unfold maxLen at hmax; omega⟩
    rw [List.getElem?_take] at hj
    split at hj
    · rename_i hjl
      have h0 := hc 0 (by omega)
      have hc := hc j (by omega)
      rw [List.getD_eq_getElem?_getD, hj, Option.getD_some] at hc
      have hp : a = ⟨a.block, a.off, none⟩ := by
        have e : a.add 0 = a := by simp [Addr.add]
        rw [e] at h0
        exact plain_cell h0
      rw [hp, Addr.add_mid] at hc
      exact ⟨a.block, a.off, by rw [← hp], hc⟩
    · cases hj
end
end Go.Proofs.Ytjoaedkgjnchoac.PRun
