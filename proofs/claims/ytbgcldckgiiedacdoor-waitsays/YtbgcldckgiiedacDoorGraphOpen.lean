/- A list of edges that is handed in: what its reading says of the cells, and of the sizes; the library's table, as the row lists it. -/
import Derived.Test.YtbgcldckgiiedacDoorGraphTz
import Derived.Test.YtbgcldckgiiedacDoorRows
import Derived.Deep.Grids
import Derived.ChangeSame
import Derived.SizedLaws
import Derived.LaidMore
import Derived.Lib.LaidTab
namespace Go.Proofs.YtbgcldckgiiedacDoor.PGraph
open Go Go.RowKit Go.Deep Go.ChangeShapes PPool
set_option maxRecDepth 100000

section
variable {H : Type} {enc : TypeId × Value → H} {W : World}

theorem plain_cell {w : World} {a : Addr} {v : Value} (h : w.cell? a = some v) : a = ⟨a.block, a.off, none⟩ := by
  obtain ⟨b, o, s⟩ := a
  cases s with
  | none => rfl
  | some x =>
    unfold World.cell? at h
    split at h <;> simp at h

theorem cellsS : Tryd.prog.cellsOf 34 = 2 := by kernel_rfl
theorem bytesS : Tryd.prog.bytesOf 34 = 16 := by kernel_rfl
theorem cells3 : Tryd.prog.cellsOf 3 = 1 := by kernel_rfl
theorem edge_open {n : Nat} {cs : List Value} {x : DataW H × List MemPlace} (h : DataW.trod enc Tryd.prog W 0 (fun _ => true) true n 34 cs = some x) :
    ∃ s : Gr.Ed, cs = [.int .i64 s.f, .int .i64 s.t] := by
  obtain ⟨y0, y1, m, hx, hl, h0, h1⟩ := trod_struct2 Tryd.underlying34 h
  rw [cellsS] at hl
  match cs, hl with
  | [c0, c1], _ =>
    have f0 : DataW.trod enc Tryd.prog W 0 (fun _ => true) true m 3 [c0] = some y0 := by
      have e := h0
      rw [cells3] at e
      exact e
    have f1 : DataW.trod enc Tryd.prog W 0 (fun _ => true) true m 3 [c1] = some y1 := by
      have e := h1
      rw [cells3] at e
      exact e
    obtain ⟨u, e0, _⟩ := DataW.trod_int Tryd.underlying3 f0
    obtain ⟨s, e1, _⟩ := DataW.trod_int Tryd.underlying3 f1
    injection e0 with e0 _
    injection e1 with e1 _
    exact ⟨⟨u, s⟩, by rw [e0, e1]⟩

theorem edges_open {n : Nat} {cs : List Value} {x : DataW H × List MemPlace} (h : DataW.trod enc Tryd.prog W 0 (fun _ => true) true n 22 cs = some x) :
    ∃ da X dc, cs = [.slice da (List.length X) dc] ∧ (da = none → dc = 0) ∧ PgAt W da X ∧ ((∀ m ∈ x.1.weights Tryd.prog 22, m ≤ reachBytes) → X.length * 16 ≤ reachBytes) := by
  rcases open_slice Tryd.underlying22 h with ⟨rfl, _⟩ | ⟨a, len, cap, m, n', D, Pl, rfl, _, hl, _, hm, hx, hc⟩
  · exact ⟨none, [], 0, rfl, fun _ => rfl, PgAt.nil _ _, by simp⟩
  · simp only [if_true] at hm
    rw [cellsS] at hc
    have hin : Inhabited Gr.Ed := ⟨Gr.zero'⟩
    obtain ⟨V, hV⟩ := choose_lt (α := Gr.Ed) (n := m) (p := fun i s => (∀ j, j < 2 → W.cell? ((a.add (i * 2)).add j) = [Value.int .i64 s.f, .int .i64 s.t][j]?)) (fun i hi => by
      obtain ⟨cs', h1, h2⟩ := hc i hi
      obtain ⟨s, rfl⟩ := edge_open h2
      exact ⟨s, (World.cells?_some h1).2.2⟩)
    refine ⟨some a, (List.range len).map V, cap, by simp, (fun e => by cases e), fun j s hj => ?_, ?_⟩
    · rw [List.getElem?_map] at hj
      cases hr : (List.range len)[j]? with
      | none => rw [hr] at hj; cases hj
      | some k =>
        rw [hr] at hj
        obtain ⟨h1, h2⟩ := List.getElem?_eq_some_iff.1 hr
        simp at h1 h2
        subst h2
        simp at hj
        subst hj
        have hcj := hV j (by omega)
        have h0 := hV 0 (by omega) 0 (by omega)
        have ea := plain_cell (by simpa [Addr.add] using h0)
        rw [ea, Addr.add_mid] at hcj
        have c0 := hcj 0 (by omega)
        have c1 := hcj 1 (by omega)
        rw [Addr.add_mid] at c0 c1
        exact ⟨a.block, a.off, by rw [← ea], c0, c1⟩
    · intro hw
      have := hw ((len + (m - len)) * 16) (by
        rw [hx]
        simp only [DataW.weights, Tryd.underlying22, bytesS, List.length_map, List.length_range]
        exact List.mem_cons_self)
      rw [List.length_map, List.length_range]
      omega

end

/-- The table's numbers. -/
def tabInts : List Int := Go.Lib.deBruijn64tab.map fun k : Nat => (k : Int)
theorem tab_ints : ∀ j, j < 64 → tabInts.getD j 0 = ((Go.Lib.deBruijn64tab.getD j 0 : Nat) : Int) := by decide
theorem tab_global : Tryd.prog.globalNamed "math/bits.deBruijn64tab" = some 0 := by kernel_rfl
theorem tab_type : (Tryd.prog.globals[0]?).map (·.type) = some 82 := by kernel_rfl
theorem tab_cells : Tryd.prog.cellsOf 82 = 64 := by kernel_rfl
theorem tab_cell : Tryd.prog.cellsOf 5 = 1 := by kernel_rfl
theorem tab_of_laid {W : World} (h : laidMetH Tryd.prog [("math/bits.deBruijn64tab", Rows.laid_math_bits_deBruijn64tab)] W) : Tab W := by
  have h' : laidMet Tryd.prog [("math/bits.deBruijn64tab", Go.Lib.tabData .u8 tabInts)] W := h
  have hT := Go.Lib.tabIs_of_head tab_global tab_type Tryd.underlying82 Tryd.underlying5 tab_cell tab_cells h'
  intro j hj
  have hj' : j < 64 := hj
  have := hT.cell tab_global j (by show j < 64; exact hj')
  rw [tab_ints j hj'] at this
  exact this
theorem door_met (os : Os) (args : Array Value) : laidMetH Tryd.prog [("math/bits.deBruijn64tab", Rows.laid_math_bits_deBruijn64tab)] ((World.doorLaid Tryd.prog 40 os).forCall (fun _ _ => 0) ⟨#[], args, []⟩).memory :=
  laidMetH_of_parts3 (fuel := 8) (laidMet_of_run' 8 (by kernel_rfl) (by kernel_rfl)) (by kernel_rfl) (by kernel_rfl)
end Go.Proofs.YtbgcldckgiiedacDoor.PGraph
