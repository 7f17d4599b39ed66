/- A page that is handed in: what its reading says of the cells, and of the sizes. -/
import Derived.Test.YtiaddijibaclkaaLeafSize
import Derived.Deep.Grids
import Derived.ChangeSame
import Derived.SizedLaws
namespace Go.Proofs.Ytiaddijibaclkaa.PLeaf
open Go Go.RowKit Go.Deep Go.ChangeShapes
set_option maxRecDepth 100000

section
variable {H : Type} {enc : TypeId × Value → H} {W : World}

theorem plain_cell {w : World} {a : Addr} {v : Value} (h : w.cell? a = some v) : a = ⟨a.block, a.off, none⟩ := by
  obtain ⟨b, o, s⟩ := a
  cases s with
  | none => rfl
  | some x =>
    unfold World.cell? at h
    split at h <;> simp at h

theorem cellsS : Try.prog.cellsOf 90 = 2 := by kernel_rfl
theorem bytesS : Try.prog.bytesOf 90 = 24 := by kernel_rfl
theorem cellsL : Try.prog.cellsOf 73 = 1 := by kernel_rfl
theorem cells4 : Try.prog.cellsOf 4 = 1 := by kernel_rfl
theorem cells9 : Try.prog.cellsOf 9 = 1 := by kernel_rfl
theorem cellsSs : Try.prog.cellsOf 71 = 1 := by kernel_rfl

theorem slot_open {n : Nat} {cs : List Value} {x : DataW H × List MemPlace} (h : DataW.trod enc Try.prog W 0 (fun _ => true) true n 90 cs = some x) :
    ∃ s : Lf.Sl, cs = [.bool s.used, .string s.text] ∧ s.text.size ∈ x.1.weights Try.prog 90 := by
  obtain ⟨xs, m, _, hx, hl, hlen, hf⟩ := DataW.trod_struct Try.underlying90 h
  rw [cellsS] at hl
  match cs, hl with
  | [c0, c1], _ =>
    match xs, hlen with
    | [y0, y1], _ =>
      have f0 := hf 0 _ rfl
      have f1 := hf 1 _ rfl
      simp only [List.getElem?_cons_zero, List.getElem?_cons_succ] at f0 f1
      obtain ⟨u, e0, _⟩ := DataW.trod_bool Try.underlying4 f0
      obtain ⟨s, e1, hy, _⟩ := DataW.trod_string Try.underlying9 f1
      refine ⟨⟨u, s⟩, ?_, ?_⟩
      · injection e0 with e0 _
        injection e1 with e1 _
        rw [e0, e1]
      · rw [hx]
        simp only [DataW.weights, Try.underlying90, List.map_cons, List.map_nil, DataW.weightsEach, hy, List.mem_append, List.mem_cons, List.not_mem_nil, or_false]
        right
        exact (Lf.size_list s).symm

theorem weightsAll_mem {P : Program} {e : TypeId} : ∀ {l : List (DataW H)} {d : DataW H} {n : Nat}, d ∈ l → n ∈ d.weights P e → n ∈ DataW.weightsAll P e l
  | [], _, _, h, _ => by simp at h
  | a :: l, d, n, h, hn => by
    rw [DataW.weightsAll, List.mem_append]
    rcases List.mem_cons.1 h with rfl | h
    · exact .inl hn
    · exact .inr (weightsAll_mem h hn)

theorem slots_open {n : Nat} {cs : List Value} {x : DataW H × List MemPlace} (h : DataW.trod enc Try.prog W 0 (fun _ => true) true n 71 cs = some x) :
    ∃ da X dc, cs = [.slice da (List.length X) dc] ∧ (da = none → dc = 0) ∧ PgAt W da X ∧ (∀ m ∈ x.1.weights Try.prog 71, m ≤ reachBytes) = ((∀ m ∈ x.1.weights Try.prog 71, m ≤ reachBytes) ∧ X.length * 24 ≤ reachBytes ∧ ∀ s ∈ X, s.text.size ≤ reachBytes) := by
  rcases open_slice Try.underlying71 h with ⟨rfl, _⟩ | ⟨a, len, cap, m, n', D, Pl, rfl, _, hl, _, hm, hx, hc⟩
  · exact ⟨none, [], 0, rfl, fun _ => rfl, PgAt.nil _ _, by simp⟩
  · simp only [if_true] at hm
    rw [cellsS] at hc
    have hin : Inhabited Lf.Sl := ⟨Lf.none'⟩
    obtain ⟨V, hV⟩ := choose_lt (α := Lf.Sl) (n := m) (p := fun i s => (∀ j, j < 2 → W.cell? ((a.add (i * 2)).add j) = [Value.bool s.used, .string s.text][j]?) ∧ s.text.size ∈ (D i).weights Try.prog 90) (fun i hi => by
      obtain ⟨cs', h1, h2⟩ := hc i hi
      obtain ⟨s, rfl, hb⟩ := slot_open h2
      exact ⟨s, (World.cells?_some h1).2.2, hb⟩)
    refine ⟨some a, (List.range len).map V, cap, by simp, (fun e => by cases e), fun j s hj => ?_, ?_⟩
    · rw [List.getElem?_map] at hj
      cases hr : (List.range len)[j]? with
      | none => rw [hr] at hj; cases hj
      | some k =>
        rw [hr] at hj
        obtain ⟨h1, h2⟩ := List.getElem?_eq_some_iff.1 hr
        simp at h1 h2
        subst h2
        simp at hj
        subst hj
        have hcj := (hV j (by omega)).1
        have h0 := (hV 0 (by omega)).1 0 (by omega)
        have ea := plain_cell (by simpa [Addr.add] using h0)
        rw [ea, Addr.add_mid] at hcj
        have c0 := hcj 0 (by omega)
        have c1 := hcj 1 (by omega)
        rw [Addr.add_mid] at c0 c1
        exact ⟨a.block, a.off, by rw [← ea], c0, c1⟩
    · refine propext ⟨fun hw => ⟨hw, ?_, ?_⟩, fun hw => hw.1⟩
      · have := hw ((len + (m - len)) * 24) (by
          rw [hx]
          simp only [DataW.weights, Try.underlying71, bytesS, List.length_map, List.length_range]
          exact List.mem_cons_self)
        rw [List.length_map, List.length_range]
        omega
      · intro s hs
        obtain ⟨i, hi, rfl⟩ := List.mem_map.1 hs
        have hil : i < len := List.mem_range.1 hi
        refine hw _ ?_
        rw [hx]
        simp only [DataW.weights, Try.underlying71]
        refine List.mem_cons_of_mem _ (List.mem_append.2 (.inl (weightsAll_mem (d := D i) (List.mem_map.2 ⟨i, hi, rfl⟩) (hV i (by omega)).2)))

theorem leaf_open {n : Nat} {cs : List Value} {x : DataW H × List MemPlace} (h : DataW.trod enc Try.prog W 0 (fun _ => true) true n 73 cs = some x) :
    ∃ da X dc, cs = [.slice da (List.length X) dc] ∧ (da = none → dc = 0) ∧ ((∀ m ∈ x.1.weights Try.prog 73, m ≤ reachBytes) → PgIn W da X ∧ X.length * 24 ≤ 140737488351232) := by
  obtain ⟨y0, m, hx, hl, h0⟩ := trod_struct1 Try.underlying73 h
  rw [cellsL] at hl
  match cs, hl with
  | [c0], _ =>
    have h0' : DataW.trod enc Try.prog W 0 (fun _ => true) true m 71 [c0] = some y0 := by
      have h1 := h0
      rw [cellsSs] at h1
      exact h1
    obtain ⟨da, X, dc, e, hz, hp, hw⟩ := slots_open h0'
    refine ⟨da, X, dc, e, hz, fun hm => ?_⟩
    have hm' : ∀ m ∈ y0.1.weights Try.prog 71, m ≤ reachBytes := fun q hq => hm q (by
      rw [hx]
      simp only [DataW.weights, Try.underlying73, List.map_cons, List.map_nil, DataW.weightsEach, List.append_nil]
      exact hq)
    rw [hw] at hm'
    have hr : reachBytes ≤ 140737488355328 := by decide
    exact ⟨⟨hp, Nat.le_trans hm'.2.1 hr, fun s hs => Nat.le_trans (hm'.2.2 s hs) hr⟩, hm'.2.1⟩
end

end Go.Proofs.Ytiaddijibaclkaa.PLeaf
