/- Lists of key deeds that are handed in: what their reading says of the cells, and how large their texts are. -/
import Derived.Test.YtlefcjgemojhpabTreeKd
import Derived.Deep.Grids
import Derived.SizedLaws
namespace Go.Proofs.Ytlefcjgemojhpab.PTree
open Go Go.RowKit Go.Deep
set_option maxRecDepth 100000
section
variable {H : Type} {enc : TypeId × Value → H} {W : World}
theorem kplain {w : World} {a : Addr} {v : Value} (h : w.cell? a = some v) : a = ⟨a.block, a.off, none⟩ ∧ a.block < w.heap.size := by
  refine ⟨?_, ?_⟩
  · obtain ⟨b, o, s⟩ := a
    cases s with
    | none => rfl
    | some x =>
      unfold World.cell? at h
      split at h <;> simp at h
  · by_cases hl : a.block < w.heap.size
    · exact hl
    · exfalso
      have e : w.heap[a.block]? = none := Array.getElem?_eq_none (by omega)
      unfold World.cell? at h
      rw [e] at h
      simp at h
theorem cellsK : Try.prog.cellsOf 50 = 3 := by kernel_rfl
theorem bytesK : Try.prog.bytesOf 50 = 32 := by kernel_rfl
theorem weights_all {P : Program} {e : TypeId} {d : DataW H} {n : Nat} (hn : n ∈ d.weights P e) : ∀ {l : List (DataW H)}, d ∈ l → n ∈ DataW.weightsAll P e l
  | x :: l, h => by
    unfold DataW.weightsAll
    rw [List.mem_append]
    rcases List.mem_cons.1 h with rfl | h
    · exact .inl hn
    · exact .inr (weights_all hn h)
theorem kdeed_open {n : Nat} {cs : List Value} {x : DataW H × List MemPlace} (h : DataW.trod enc Try.prog W 0 (fun _ => true) true n 50 cs = some x) :
    ∃ d : Kd, cs = [.int .i64 d.kind, .int .i64 d.key, .string d.text] ∧ d.text.size ∈ x.1.weights Try.prog 50 ∧ (Lit.int .i64 d.key).wf = true := by
  obtain ⟨xs, m, _, ex, hl, hlen, hf⟩ := DataW.trod_struct Try.underlying50 h
  rw [cellsK] at hl
  match cs, hl with
  | [c0, c1, c2], _ =>
    match xs, hlen with
    | [y0, y1, y2], _ =>
      have f0 := hf 0 _ rfl
      have f1 := hf 1 _ rfl
      have f2 := hf 2 _ rfl
      simp only [List.getElem?_cons_zero, List.getElem?_cons_succ] at f0 f1 f2
      obtain ⟨k, e0, _, _⟩ := DataW.trod_int Try.underlying3 f0
      obtain ⟨v, e1, _, wv⟩ := DataW.trod_int Try.underlying3 f1
      obtain ⟨s, e2, e3, _⟩ := DataW.trod_string Try.underlying9 f2
      refine ⟨⟨k, v, s⟩, ?_, ?_, wv⟩
      · injection e0 with e0 _
        injection e1 with e1 _
        injection e2 with e2 _
        rw [e0, e1, e2]
      · rw [ex]
        show s.size ∈ DataW.weights Try.prog 50 (DataW.agg [y0.1, y1.1, y2.1])
        rw [e3]
        unfold DataW.weights
        rw [Try.underlying50]
        simp only [List.map_cons, List.map_nil, DataW.weightsEach, List.mem_append]
        right; right; left
        unfold DataW.weights
        exact List.mem_singleton.2 rfl
theorem kdeeds_open {n : Nat} {cs : List Value} {x : DataW H × List MemPlace} (h : DataW.trod enc Try.prog W 0 (fun _ => true) true n 44 cs = some x) :
    ∃ da X dc, cs = [.slice da (List.length X) dc] ∧ KdAt W da X ∧ (∀ d ∈ X, d.text.size ∈ x.1.weights Try.prog 44) ∧ (∀ d ∈ X, (Lit.int .i64 d.key).wf = true) ∧ (X = [] ∨ ∃ elems spare, x.1 = .slice elems spare ∧ elems.length = List.length X) := by
  rcases open_slice Try.underlying44 h with ⟨rfl, _⟩ | ⟨a, len, cap, m, n', D, Pl, rfl, _, hl, _, hm, hx, hc⟩
  · exact ⟨none, [], 0, rfl, fun j x hj => by simp at hj, by simp, by simp, .inl rfl⟩
  · simp only [if_true] at hm
    rw [cellsK] at hc
    have hin : Inhabited Kd := ⟨⟨0, 0, ⟨#[]⟩⟩⟩
    obtain ⟨V, hV⟩ := choose_lt (α := Kd) (n := m) (p := fun i d => (∀ j, j < 3 → W.cell? ((a.add (i * 3)).add j) = [Value.int .i64 d.kind, .int .i64 d.key, .string d.text][j]?) ∧ d.text.size ∈ (D i).weights Try.prog 50 ∧ (Lit.int .i64 d.key).wf = true) (fun i hi => by
      obtain ⟨cs', h1, h2⟩ := hc i hi
      obtain ⟨d, rfl, hb, hw⟩ := kdeed_open h2
      exact ⟨d, (World.cells?_some h1).2.2, hb, hw⟩)
    refine ⟨some a, (List.range len).map V, cap, by simp, fun j d hj => ?_, ?_, ?_, .inr ⟨_, _, by rw [hx], by simp⟩⟩
    · rw [List.getElem?_map] at hj
      cases hr : (List.range len)[j]? with
      | none => rw [hr] at hj; cases hj
      | some k =>
        rw [hr] at hj
        obtain ⟨h1, h2⟩ := List.getElem?_eq_some_iff.1 hr
        simp at h1 h2
        subst h2
        simp at hj
        subst hj
        have hk := kplain ((hV 0 (by omega)).1 0 (by omega))
        have ea : a = ⟨a.block, a.off, none⟩ := by simpa [Addr.add] using hk.1
        have hb' : a.block < W.heap.size := by simpa [Addr.add] using hk.2
        have hc := (hV j (by omega)).1
        rw [ea, Addr.add_mid] at hc
        have c0 := hc 0 (by omega)
        have c1 := hc 1 (by omega)
        have c2 := hc 2 (by omega)
        rw [Addr.add_mid] at c0 c1 c2
        exact ⟨a.block, a.off, by rw [← ea], hb', c0, c1, c2⟩
    · intro d hd
      obtain ⟨i, hi, rfl⟩ := List.mem_map.1 hd
      have h2 := (hV i (by have := List.mem_range.1 hi; omega)).2.1
      rw [hx]
      show _ ∈ DataW.weights Try.prog 44 (DataW.slice _ _)
      unfold DataW.weights
      rw [Try.underlying44]
      simp only [List.mem_cons, List.mem_append]
      exact .inr (.inl (weights_all h2 (List.mem_map.2 ⟨i, hi, rfl⟩)))
    · intro d hd
      obtain ⟨i, hi, rfl⟩ := List.mem_map.1 hd
      exact (hV i (by have := List.mem_range.1 hi; omega)).2.2
end
end Go.Proofs.Ytlefcjgemojhpab.PTree
