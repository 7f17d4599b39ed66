/- A table of locks that is handed in: what its reading says of the cells, and of the sizes. -/
import Derived.Test.YtjoaedkgjnchoanLockTab
import Derived.Test.YtjoaedkgjnchoanRows
import Derived.Deep.Grids
import Derived.Deep.Strs
import Derived.ChangeSame
import Derived.ChangeSlices
import Derived.SizedLaws
namespace Go.Proofs.Ytjoaedkgjnchoan.PLock
open Go Go.RowKit Go.Deep Go.ChangeShapes PPool
set_option maxRecDepth 100000

section
variable {H : Type} {enc : TypeId × Value → H} {W : World}

theorem plain_cell {w : World} {a : Addr} {v : Value} (h : w.cell? a = some v) : a = ⟨a.block, a.off, none⟩ := by
  obtain ⟨b, o, s⟩ := a
  cases s with
  | none => rfl
  | some x =>
    unfold World.cell? at h
    split at h <;> simp at h

theorem cellsL : Try.prog.cellsOf 62 = 2 := by kernel_rfl
theorem cellsI : Try.prog.cellsOf 66 = 3 := by kernel_rfl
theorem cellsLs : Try.prog.cellsOf 64 = 1 := by kernel_rfl
theorem cells3 : Try.prog.cellsOf 3 = 1 := by kernel_rfl
theorem lock_open {n : Nat} {cs : List Value} {x : DataW H × List MemPlace} (h : DataW.trod enc Try.prog W 0 (fun _ => true) true n 62 cs = some x) :
    ∃ s : Lk.Lo, cs = [.int .i64 s.x, .int .i64 s.m] := by
  obtain ⟨y0, y1, m, hx, hl, h0, h1⟩ := trod_struct2 Try.underlying62 h
  rw [cellsL] at hl
  match cs, hl with
  | [c0, c1], _ =>
    have f0 : DataW.trod enc Try.prog W 0 (fun _ => true) true m 3 [c0] = some y0 := by
      have e := h0
      rw [cells3] at e
      exact e
    have f1 : DataW.trod enc Try.prog W 0 (fun _ => true) true m 3 [c1] = some y1 := by
      have e := h1
      rw [cells3] at e
      exact e
    obtain ⟨u, e0, _⟩ := DataW.trod_int Try.underlying3 f0
    obtain ⟨s, e1, _⟩ := DataW.trod_int Try.underlying3 f1
    injection e0 with e0 _
    injection e1 with e1 _
    exact ⟨⟨u, s⟩, by rw [e0, e1]⟩
theorem list_open {n : Nat} {cs : List Value} {x : DataW H × List MemPlace} (h : DataW.trod enc Try.prog W 0 (fun _ => true) true n 64 cs = some x) :
    ∃ v L, cs = [v] ∧ LsAt W v L := by
  rcases open_slice Try.underlying64 h with ⟨rfl, _⟩ | ⟨a, len, cap, m, n', D, Pl, rfl, _, hl, hmx, hm, hx, hc⟩
  · exact ⟨_, [], rfl, LsAt.nil W⟩
  · simp only [if_true] at hm
    rw [cellsL] at hc
    obtain ⟨V, hV⟩ := choose_lt (α := Lk.Lo) (n := m) (p := fun i s => (∀ j, j < 2 → W.cell? ((a.add (i * 2)).add j) = [Value.int .i64 s.x, .int .i64 s.m][j]?)) (fun i hi => by
      obtain ⟨cs', h1, h2⟩ := hc i hi
      obtain ⟨s, rfl⟩ := lock_open h2
      exact ⟨s, (World.cells?_some h1).2.2⟩)
    refine ⟨_, (List.range len).map V, rfl, some a, cap, by simp, fun j s hj => ?_, by rw [List.length_map, List.length_range]; exact hl, hmx, (fun e => by cases e)⟩
    rw [List.getElem?_map] at hj
    cases hr : (List.range len)[j]? with
    | none => rw [hr] at hj; cases hj
    | some k =>
      rw [hr] at hj
      obtain ⟨h1, h2⟩ := List.getElem?_eq_some_iff.1 hr
      simp at h1 h2
      subst h2
      simp at hj
      subst hj
      have hcj := hV j (by omega)
      have h0 := hV 0 (by omega) 0 (by omega)
      have ea := plain_cell (by simpa [Addr.add] using h0)
      rw [ea, Addr.add_mid] at hcj
      have c0 := hcj 0 (by omega)
      have c1 := hcj 1 (by omega)
      rw [Addr.add_mid] at c0 c1
      exact ⟨a.block, a.off, by rw [← ea], c0, c1⟩
theorem item_open {n : Nat} {cs : List Value} {x : DataW H × List MemPlace} (h : DataW.trod enc Try.prog W 0 (fun _ => true) true n 66 cs = some x) :
    ∃ s : Lk.It × Value × Value, cs = [.int .i64 s.1.i, s.2.1, s.2.2] ∧ LsAt W s.2.1 s.1.h ∧ LsAt W s.2.2 s.1.q := by
  obtain ⟨y0, y1, y2, m, hx, hl, h0, h1, h2⟩ := trod_struct3 Try.underlying66 h
  rw [cellsI] at hl
  match cs, hl with
  | [c0, c1, c2], _ =>
    have f0 : DataW.trod enc Try.prog W 0 (fun _ => true) true m 3 [c0] = some y0 := by
      have e := h0
      rw [cells3] at e
      exact e
    have f1 : DataW.trod enc Try.prog W 0 (fun _ => true) true m 64 [c1] = some y1 := by
      have e := h1
      rw [cellsLs] at e
      exact e
    have f2 : DataW.trod enc Try.prog W 0 (fun _ => true) true m 64 [c2] = some y2 := by
      have e := h2
      rw [cellsLs] at e
      exact e
    obtain ⟨u, e0, _⟩ := DataW.trod_int Try.underlying3 f0
    obtain ⟨v, L, e1, hv⟩ := list_open f1
    obtain ⟨z, M, e2, hz⟩ := list_open f2
    injection e0 with e0 _
    injection e1 with e1 _
    injection e2 with e2 _
    exact ⟨⟨⟨u, L, M⟩, v, z⟩, by rw [e0, e1, e2], hv, hz⟩
theorem tab_open {n : Nat} {cs : List Value} {x : DataW H × List MemPlace} (h : DataW.trod enc Try.prog W 0 (fun _ => true) true n 58 cs = some x) :
    ∃ da T dc, cs = [.slice da (List.length T) dc] ∧ TbAt W da T ∧ T.length ≤ 9223372036854775807 ∧ T.length ≤ dc ∧ dc ≤ maxLen ∧ (da = none → dc = 0) := by
  rcases open_slice Try.underlying58 h with ⟨rfl, _⟩ | ⟨a, len, cap, m, n', D, Pl, rfl, _, hl, hmx, hm, hx, hc⟩
  · exact ⟨none, [], 0, rfl, TbAt.nil _ _, by simp, Nat.le_refl 0, Nat.zero_le _, fun _ => rfl⟩
  · simp only [if_true] at hm
    rw [cellsI] at hc
    have hin : Inhabited (Lk.It × Value × Value) := ⟨⟨⟨0, [], []⟩, .bool false, .bool false⟩⟩
    obtain ⟨V, hV⟩ := choose_lt (α := Lk.It × Value × Value) (n := m) (p := fun i s => (∀ j, j < 3 → W.cell? ((a.add (i * 3)).add j) = [Value.int .i64 s.1.i, s.2.1, s.2.2][j]?) ∧ LsAt W s.2.1 s.1.h ∧ LsAt W s.2.2 s.1.q) (fun i hi => by
      obtain ⟨cs', h1, h2⟩ := hc i hi
      obtain ⟨s, rfl, h3⟩ := item_open h2
      exact ⟨s, (World.cells?_some h1).2.2, h3⟩)
    refine ⟨some a, (List.range len).map fun k => (V k).1, cap, by simp, fun j s hj => ?_, by rw [List.length_map, List.length_range]; unfold maxLen at hmx; omega, by rw [List.length_map, List.length_range]; exact hl, hmx, (fun e => by cases e)⟩
    rw [List.getElem?_map] at hj
    cases hr : (List.range len)[j]? with
    | none => rw [hr] at hj; cases hj
    | some k =>
      rw [hr] at hj
      obtain ⟨h1, h2⟩ := List.getElem?_eq_some_iff.1 hr
      simp at h1 h2
      subst h2
      simp at hj
      subst hj
      obtain ⟨hcj, hv1, hv2⟩ := hV j (by omega)
      have h0 := (hV 0 (by omega)).1 0 (by omega)
      have ea := plain_cell (by simpa [Addr.add] using h0)
      rw [ea, Addr.add_mid] at hcj
      have c0 := hcj 0 (by omega)
      have c1 := hcj 1 (by omega)
      have c2 := hcj 2 (by omega)
      rw [Addr.add_mid] at c0 c1 c2
      exact ⟨a.block, a.off, (V j).2.1, (V j).2.2, by rw [← ea], c0, c1, c2, hv1, hv2⟩
end
end Go.Proofs.Ytjoaedkgjnchoan.PLock
