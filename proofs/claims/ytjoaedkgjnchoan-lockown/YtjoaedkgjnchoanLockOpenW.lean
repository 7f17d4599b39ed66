/- A table of locks that is handed in: what its reading says of the cells, and of the sizes of all its rows. -/
import Derived.Test.YtjoaedkgjnchoanLockOpen
namespace Go.Proofs.Ytjoaedkgjnchoan.PLock
open Go Go.RowKit Go.Deep Go.ChangeShapes PPool
set_option maxRecDepth 100000

section
variable {H : Type} {enc : TypeId × Value → H} {W : World}

theorem bytesL : Try.prog.bytesOf 62 = 16 := by kernel_rfl
theorem bytesI : Try.prog.bytesOf 66 = 56 := by kernel_rfl
theorem weights_all {P : Program} {e : TypeId} {d : DataW H} {n : Nat} (hn : n ∈ d.weights P e) : ∀ {l : List (DataW H)}, d ∈ l → n ∈ DataW.weightsAll P e l
  | x :: l, h => by
    unfold DataW.weightsAll
    rw [List.mem_append]
    rcases List.mem_cons.1 h with rfl | h
    · exact .inl hn
    · exact .inr (weights_all hn h)
theorem list_openW {n : Nat} {cs : List Value} {x : DataW H × List MemPlace} (h : DataW.trod enc Try.prog W 0 (fun _ => true) true n 64 cs = some x) :
    ∃ v L, cs = [v] ∧ LsAt W v L ∧ ((∀ m ∈ x.1.weights Try.prog 64, m ≤ reachBytes) → L.length * 16 ≤ reachBytes) := by
  obtain ⟨v, L, rfl, hL⟩ := list_open h
  refine ⟨v, L, rfl, hL, fun hw => ?_⟩
  rcases open_slice Try.underlying64 h with ⟨e, _⟩ | ⟨a, len, cap, m, n', D, Pl, e, _, hl, hmx, hm, hx, hc⟩
  · obtain ⟨a', c', e', _⟩ := hL
    rw [e'] at e
    injection e with e _
    injection e with _ e _
    rw [e]
    simp
  · simp only [if_true] at hm
    obtain ⟨a', c', e', _⟩ := hL
    rw [e'] at e
    injection e with e _
    injection e with _ e _
    have := hw ((len + (m - len)) * 16) (by
      rw [hx]
      simp only [DataW.weights, Try.underlying64, bytesL, List.length_map, List.length_range]
      exact List.mem_cons_self)
    rw [e]
    omega
theorem item_openW {n : Nat} {cs : List Value} {x : DataW H × List MemPlace} (h : DataW.trod enc Try.prog W 0 (fun _ => true) true n 66 cs = some x) :
    ∃ s : Lk.It × Value × Value, cs = [.int .i64 s.1.i, s.2.1, s.2.2] ∧ LsAt W s.2.1 s.1.h ∧ LsAt W s.2.2 s.1.q ∧ ((∀ m ∈ x.1.weights Try.prog 66, m ≤ reachBytes) → s.1.h.length * 16 ≤ reachBytes ∧ s.1.q.length * 16 ≤ reachBytes) := by
  obtain ⟨y0, y1, y2, m, hx, hl, h0, h1, h2⟩ := trod_struct3 Try.underlying66 h
  rw [cellsI] at hl
  match cs, hl with
  | [c0, c1, c2], _ =>
    have f0 : DataW.trod enc Try.prog W 0 (fun _ => true) true m 3 [c0] = some y0 := by
      have e := h0
      rw [cells3] at e
      exact e
    have f1 : DataW.trod enc Try.prog W 0 (fun _ => true) true m 64 [c1] = some y1 := by
      have e := h1
      rw [cellsLs] at e
      exact e
    have f2 : DataW.trod enc Try.prog W 0 (fun _ => true) true m 64 [c2] = some y2 := by
      have e := h2
      rw [cellsLs] at e
      exact e
    obtain ⟨u, e0, _⟩ := DataW.trod_int Try.underlying3 f0
    obtain ⟨v, L, e1, hv, w1⟩ := list_openW f1
    obtain ⟨z, M, e2, hz, w2⟩ := list_openW f2
    injection e0 with e0 _
    injection e1 with e1 _
    injection e2 with e2 _
    refine ⟨⟨⟨u, L, M⟩, v, z⟩, by rw [e0, e1, e2], hv, hz, fun hw => ⟨w1 fun q hq => hw q ?_, w2 fun q hq => hw q ?_⟩⟩
    · rw [hx]
      simp only [DataW.weights, Try.underlying66, List.map_cons, List.map_nil, DataW.weightsEach, List.append_nil, List.mem_append]
      exact .inr (.inl hq)
    · rw [hx]
      simp only [DataW.weights, Try.underlying66, List.map_cons, List.map_nil, DataW.weightsEach, List.append_nil, List.mem_append]
      exact .inr (.inr hq)
theorem tab_openW {n : Nat} {cs : List Value} {x : DataW H × List MemPlace} (h : DataW.trod enc Try.prog W 0 (fun _ => true) true n 58 cs = some x) :
    ∃ da T dc, cs = [.slice da (List.length T) dc] ∧ TbAt W da T ∧ ((∀ m ∈ x.1.weights Try.prog 58, m ≤ reachBytes) → T.length * 56 ≤ 140737488351232 ∧ ∀ x ∈ T, x.h.length * 16 ≤ 140737488351232 ∧ x.q.length * 16 ≤ 140737488351232) := by
  rcases open_slice Try.underlying58 h with ⟨rfl, _⟩ | ⟨a, len, cap, m, n', D, Pl, rfl, _, hl, hmx, hm, hx, hc⟩
  · exact ⟨none, [], 0, rfl, TbAt.nil _ _, fun _ => ⟨by simp, by simp⟩⟩
  · simp only [if_true] at hm
    rw [cellsI] at hc
    have hin : Inhabited (Lk.It × Value × Value) := ⟨⟨⟨0, [], []⟩, .bool false, .bool false⟩⟩
    obtain ⟨V, hV⟩ := choose_lt (α := Lk.It × Value × Value) (n := m) (p := fun i s => ((∀ j, j < 3 → W.cell? ((a.add (i * 3)).add j) = [Value.int .i64 s.1.i, s.2.1, s.2.2][j]?) ∧ LsAt W s.2.1 s.1.h ∧ LsAt W s.2.2 s.1.q) ∧ ((∀ m ∈ (D i).weights Try.prog 66, m ≤ reachBytes) → s.1.h.length * 16 ≤ reachBytes ∧ s.1.q.length * 16 ≤ reachBytes)) (fun i hi => by
      obtain ⟨cs', h1, h2⟩ := hc i hi
      obtain ⟨s, rfl, h3, h4, h5⟩ := item_openW h2
      exact ⟨s, ⟨(World.cells?_some h1).2.2, h3, h4⟩, h5⟩)
    refine ⟨some a, (List.range len).map fun k => (V k).1, cap, by simp, fun j s hj => ?_, fun hw => ⟨?_, fun y hy => ?_⟩⟩
    · rw [List.getElem?_map] at hj
      cases hr : (List.range len)[j]? with
      | none => rw [hr] at hj; cases hj
      | some k =>
        rw [hr] at hj
        obtain ⟨h1, h2⟩ := List.getElem?_eq_some_iff.1 hr
        simp at h1 h2
        subst h2
        simp at hj
        subst hj
        obtain ⟨hcj, hv1, hv2⟩ := (hV j (by omega)).1
        have h0 := (hV 0 (by omega)).1.1 0 (by omega)
        have ea := plain_cell (by simpa [Addr.add] using h0)
        rw [ea, Addr.add_mid] at hcj
        have c0 := hcj 0 (by omega)
        have c1 := hcj 1 (by omega)
        have c2 := hcj 2 (by omega)
        rw [Addr.add_mid] at c0 c1 c2
        exact ⟨a.block, a.off, (V j).2.1, (V j).2.2, by rw [← ea], c0, c1, c2, hv1, hv2⟩
    · have := hw ((len + (m - len)) * 56) (by
        rw [hx]
        simp only [DataW.weights, Try.underlying58, bytesI, List.length_map, List.length_range]
        exact List.mem_cons_self)
      rw [List.length_map, List.length_range]
      have e : reachBytes = 140737488351232 := rfl
      omega
    · obtain ⟨i, hi, rfl⟩ := List.mem_map.1 hy
      have hi := List.mem_range.1 hi
      refine (hV i (by omega)).2 fun q hq => hw q ?_
      rw [hx]
      show _ ∈ DataW.weights Try.prog 58 (DataW.slice _ _)
      unfold DataW.weights
      rw [Try.underlying58]
      simp only [List.mem_cons, List.mem_append]
      exact .inr (.inl (weights_all hq (List.mem_map.2 ⟨i, List.mem_range.2 hi, rfl⟩)))
end
end Go.Proofs.Ytjoaedkgjnchoan.PLock
