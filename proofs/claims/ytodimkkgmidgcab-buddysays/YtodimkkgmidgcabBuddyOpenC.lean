/- Room that is handed in: as BuddyOpen, and its length is not above its capacity. -/
import Derived.Test.YtodimkkgmidgcabBuddyOpen
namespace Go.Proofs.Ytodimkkgmidgcab.PBuddy
open Go Go.RowKit Go.Deep Go.ChangeShapes PPool
set_option maxRecDepth 100000

section
variable {H : Type} {enc : TypeId × Value → H} {W : World}

theorem blocks_openC {n : Nat} {cs : List Value} {x : DataW H × List MemPlace} (h : DataW.trod enc Try.prog W 0 (fun _ => true) true n 22 cs = some x) :
    ∃ da X dc, cs = [.slice da (List.length X) dc] ∧ (da = none → dc = 0) ∧ PgAt W da X ∧ X.length ≤ dc ∧ ((∀ m ∈ x.1.weights Try.prog 22, m ≤ reachBytes) → X.length * 16 ≤ reachBytes) := by
  rcases open_slice Try.underlying22 h with ⟨rfl, _⟩ | ⟨a, len, cap, m, n', D, Pl, rfl, _, hl, _, hm, hx, hc⟩
  · exact ⟨none, [], 0, rfl, fun _ => rfl, PgAt.nil _ _, Nat.le_refl 0, by simp⟩
  · simp only [if_true] at hm
    rw [cellsS] at hc
    have hin : Inhabited Bd.Bk := ⟨Bd.zero'⟩
    obtain ⟨V, hV⟩ := choose_lt (α := Bd.Bk) (n := m) (p := fun i s => (∀ j, j < 2 → W.cell? ((a.add (i * 2)).add j) = [Value.int .i64 s.a, .int .i64 s.o][j]?)) (fun i hi => by
      obtain ⟨cs', h1, h2⟩ := hc i hi
      obtain ⟨s, rfl⟩ := block_open h2
      exact ⟨s, (World.cells?_some h1).2.2⟩)
    refine ⟨some a, (List.range len).map V, cap, by simp, (fun e => by cases e), fun j s hj => ?_, by rw [List.length_map, List.length_range]; exact hl, ?_⟩
    · rw [List.getElem?_map] at hj
      cases hr : (List.range len)[j]? with
      | none => rw [hr] at hj; cases hj
      | some k =>
        rw [hr] at hj
        obtain ⟨h1, h2⟩ := List.getElem?_eq_some_iff.1 hr
        simp at h1 h2
        subst h2
        simp at hj
        subst hj
        have hcj := hV j (by omega)
        have h0 := hV 0 (by omega) 0 (by omega)
        have ea := plain_cell (by simpa [Addr.add] using h0)
        rw [ea, Addr.add_mid] at hcj
        have c0 := hcj 0 (by omega)
        have c1 := hcj 1 (by omega)
        rw [Addr.add_mid] at c0 c1
        exact ⟨a.block, a.off, by rw [← ea], c0, c1⟩
    · intro hw
      have := hw ((len + (m - len)) * 16) (by
        rw [hx]
        simp only [DataW.weights, Try.underlying22, bytesS, List.length_map, List.length_range]
        exact List.mem_cons_self)
      rw [List.length_map, List.length_range]
      omega

theorem buddy_openC {n : Nat} {cs : List Value} {x : DataW H × List MemPlace} (h : DataW.trod enc Try.prog W 0 (fun _ => true) true n 24 cs = some x) :
    ∃ N da X dc, cs = [.int .i64 N, .slice da (List.length X) dc] ∧ (da = none → dc = 0) ∧ PgAt W da X ∧ X.length ≤ dc ∧ ((∀ m ∈ x.1.weights Try.prog 24, m ≤ reachBytes) → X.length * 16 ≤ 140737488351232) := by
  obtain ⟨y0, y1, m, hx, hl, h0, h1⟩ := trod_struct2 Try.underlying24 h
  rw [cellsL] at hl
  match cs, hl with
  | [c0, c1], _ =>
    have f0 : DataW.trod enc Try.prog W 0 (fun _ => true) true m 3 [c0] = some y0 := by
      have e := h0
      rw [cells3] at e
      exact e
    have f1 : DataW.trod enc Try.prog W 0 (fun _ => true) true m 22 [c1] = some y1 := by
      have e := h1
      rw [cellsSs] at e
      exact e
    obtain ⟨u, e0, _⟩ := DataW.trod_int Try.underlying3 f0
    obtain ⟨da, X, dc, e, hz, hp, hlc, hw⟩ := blocks_openC f1
    injection e0 with e0 _
    injection e with e _
    refine ⟨u, da, X, dc, by rw [e0, e], hz, hp, hlc, fun hm => ?_⟩
    refine hw fun q hq => hm q ?_
    rw [hx]
    simp only [DataW.weights, Try.underlying24, List.map_cons, List.map_nil, DataW.weightsEach, List.append_nil, List.mem_append]
    exact .inr hq
end

end Go.Proofs.Ytodimkkgmidgcab.PBuddy
