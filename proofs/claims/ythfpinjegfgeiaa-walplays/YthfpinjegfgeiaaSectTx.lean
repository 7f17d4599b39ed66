/- A list of texts in a row of one's own: how it lies, what a store, a cut and an append leave. -/
import Derived.Test.YthfpinjegfgeiaaSectCrash
import Derived.ArgAppend
namespace Go.Proofs.Ythfpinjegfgeiaa
open Go Go.RowKit
set_option maxRecDepth 100000

/-! ### A list of texts, anywhere in a row of one's own -/
structure TxAt (w : World) (g o c : Nat) (l : List ByteArray) : Prop where
  len : l.length ≤ c
  cap : c ≤ maxLen
  row : ∃ cur : Array Value, w.heap[g]? = some (.cells cur 9 (0, 0)) ∧ o + c ≤ cur.size ∧ ∀ j t, l[j]? = some t → cur[o + j]? = some (.string t)

theorem TxAt.lt {w : World} {g o c : Nat} {l : List ByteArray} (h : TxAt w g o c l) : g < w.heap.size := by
  obtain ⟨cur, hg, _⟩ := h.row
  exact lt_of_heap hg
theorem TxAt.keep {w w' : World} {g o c : Nat} {l : List ByteArray} (h : TxAt w g o c l) (hb : w'.heap[g]? = w.heap[g]?) : TxAt w' g o c l :=
  ⟨h.len, h.cap, by rw [hb]; exact h.row⟩
theorem TxAt.cell {w : World} {g o c : Nat} {l : List ByteArray} (h : TxAt w g o c l) (j : Nat) (t : ByteArray) (hj : l[j]? = some t) : w.cell? ⟨g, o + j, none⟩ = some (.string t) := by
  obtain ⟨cur, hg, _, hc⟩ := h.row
  rw [cell_of_row w g _ cur 9 _ hg]
  exact hc j t hj
theorem TxAt.fz {w : World} {g o c : Nat} {l : List ByteArray} (h : TxAt w g o c l) (j : Nat) : w.frozen? ⟨g, j, none⟩ = false := by
  obtain ⟨cur, hg, _⟩ := h.row
  simp [World.frozen?, hg]
theorem TxAt.made (w : World) (t : ByteArray) : TxAt (w.alloc (.cells #[.string t] 9)) w.heap.size 0 1 [t] :=
  ⟨by simp, by unfold maxLen; omega, ⟨_, heap_alloc_new w _, by simp, fun j u hj => by
    match j, hj with
    | 0, hj => simp at hj; subst hj; rfl⟩⟩
theorem TxAt.last {w : World} {g o c : Nat} {l : List ByteArray} (h : TxAt w g o c l) (x : ByteArray) (hx : l[l.length - 1]? = some x) : TxAt w g (o + (l.length - 1)) (c - (l.length - 1)) [x] := by
  have hlen := h.len
  have hpos : l.length - 1 < l.length := (List.getElem?_eq_some_iff.1 hx).1
  obtain ⟨cur, hg, hc, hv⟩ := h.row
  refine ⟨by simp; omega, by have := h.cap; omega, cur, hg, by omega, fun j t hj => ?_⟩
  match j, hj with
  | 0, hj =>
    simp at hj
    subst hj
    exact hv _ _ hx
theorem TxAt.set0 {w : World} {g o c : Nat} {t : ByteArray} (h : TxAt w g o c [t]) (u : ByteArray) : TxAt (w.setCell ⟨g, o, none⟩ (.string u)) g o c [u] := by
  have hlen : 1 ≤ c := by simpa using h.len
  obtain ⟨cur, hg, hc, hv⟩ := h.row
  refine ⟨h.len, h.cap, cur.setIfInBounds o (.string u), ?_, by simpa using hc, fun j x hj => ?_⟩
  · rw [setCell_eq_setRow w g o cur 9 _ _ hg]
    exact setRow_heap w g _ _ _ _ hg
  · match j, hj with
    | 0, hj =>
      simp at hj
      subst hj
      rw [Nat.add_zero, Array.getElem?_setIfInBounds_self_of_lt (by omega)]

theorem tx_info : (Try.prog.info? 9).map (fun i => (i.zero, i.size, i.bytes)) = some (some (.string ⟨#[]⟩), 1, 16) := by kernel_rfl

/-- append of one text. -/
theorem run_append_tx (w : World) (ty : TypeId) (g o c : Nat) (l : List ByteArray) (h : TxAt w g o c l) (t : ByteArray) (b : Nat) (hb : w.heap[b]? = some (.cells #[.string t] 9 (0, 0)))
    (hroom : ((l.length + 1) + (l.length + 1) / 4 + 192) * 16 ≤ 281474976710656) :
    ∃ g' o' c' w', (Builtin.append_ #[54, 54] ty #[.slice (some ⟨g, o, none⟩) l.length c, .slice (some ⟨b, 0, none⟩) 1 1]).run Try.prog w = .ok (.slice (some ⟨g', o', none⟩) (l.length + 1) c') w' ∧
      TxAt w' g' o' c' (l ++ [t]) ∧ w.grownBy w' (some g) ∧ (g' = g ∨ g' = w.heap.size) := by
  obtain ⟨i0, hi, hz0, hz1, hz2⟩ := info_parts tx_info
  obtain ⟨cur, hg, hc, hv⟩ := h.row
  have hlen := h.len
  have hnews : ∀ j u, [Value.string t][j]? = some u → w.cell? ((⟨b, 0, none⟩ : Addr).add j) = some u := fun j u hj => by
    match j, hj with
    | 0, hj =>
      simp at hj
      subst hj
      rw [Addr.add_mid, cell_of_row w b _ _ 9 _ hb]
      rfl
  have h1 : ∀ u ∈ [Value.string t], u.oneCell' = true := fun u hu => by rw [List.mem_singleton.1 hu]; rfl
  by_cases hr : l.length + 1 ≤ c
  · have hcell : w.cell? ⟨g, o + l.length, none⟩ = some cur[o + l.length] := by rw [cell_of_row w g _ cur 9 _ hg]; exact Array.getElem?_eq_getElem (by omega)
    have e := run_append_room_cells (P := Try.prog) w 54 ty 9 i0 Try.underlying54 hi g o l.length c ⟨b, 0, none⟩ 1 1 [.string t] (by rw [hz1]; rfl) hnews h1 hr
      (fun j hj => by
        have hj0 : j = 0 := by simpa using hj
        subst hj0
        rw [hz1, Nat.mul_one, Nat.add_zero, hcell]; rfl) (fun j _ => by simp [World.frozen?, hg])
    rw [hz1, Nat.mul_one] at e
    refine ⟨g, o, c, _, e, ⟨by simpa using hr, h.cap, cur.setIfInBounds (o + l.length) (.string t), ?_, by simpa using hc, ?_⟩, ?_, .inl rfl⟩
    · show (w.setCell ⟨g, o + l.length, none⟩ (.string t)).heap[g]? = _
      rw [setCell_eq_setRow w g _ cur 9 _ _ hg]
      exact setRow_heap w g _ _ _ _ hg
    · intro j x hj
      by_cases hjl : j < l.length
      · rw [List.getElem?_append_left hjl] at hj
        rw [Array.getElem?_setIfInBounds_ne (by omega)]
        exact hv j x hj
      · have hj2 : j = l.length := by
          have := (List.getElem?_eq_some_iff.1 hj).1
          simp at this
          omega
        subst hj2
        rw [List.getElem?_append_right (by omega)] at hj
        simp at hj
        subst hj
        rw [Array.getElem?_setIfInBounds_self_of_lt (by omega)]
    · refine ⟨rfl, rfl, rfl, by show _ ≤ (w.setCell ⟨g, o + l.length, none⟩ (.string t)).heap.size; simp, fun k _ hk => ?_⟩
      exact Below.heap_setCell w ⟨g, o + l.length, none⟩ (.string t) k (fun e => hk (by rw [e]))
  · have hmx : l.length + 1 ≤ 9223372036854775807 := by omega
    have holds : ∀ j v, (l.map Value.string)[j]? = some v → w.cell? ((⟨g, o, none⟩ : Addr).add j) = some v := fun j v hj => by
      rw [List.getElem?_map] at hj
      cases hx : l[j]? with
      | none => rw [hx] at hj; cases hj
      | some x =>
        rw [hx] at hj
        simp at hj
        subst hj
        rw [Addr.add_mid]
        exact h.cell j x hx
    have e := run_append_grow (P := Try.prog) w 54 ty 9 i0 (.string ⟨#[]⟩) Try.underlying54 hi hz0 ⟨g, o, none⟩ l.length c (l.map Value.string) (by rw [hz1]; simp) holds ⟨b, 0, none⟩ 1 1 [.string t] (by rw [hz1]; rfl) hnews (by omega) (by omega) (growslice_fits_wide (by omega) (by rw [hz2]; exact hroom))
    have hge := grownCap_ge w (l.length + 1) c 9
    have hcm : grownCap w (l.length + 1) c 9 ≤ maxLen := grownCap_le_maxLen w (l.length + 1) c 9 (by unfold maxLen; omega)
    refine ⟨w.heap.size, 0, grownCap w (l.length + 1) c 9, _, e, ⟨by simpa using hge, hcm, _, heap_alloc_new w.drew _, ?_, ?_⟩, ⟨rfl, rfl, rfl, by simp, fun k hk _ => Below.heap_alloc w.drew _ k hk⟩, .inr rfl⟩
    · rw [Nat.zero_add, Array.size_append, Array.size_append, size_zeroCells]
      simp [Value.cells]
      omega
    · intro j x hj
      have hjl : j < l.length + 1 := by
        have := (List.getElem?_eq_some_iff.1 hj).1
        simpa using this
      rw [Nat.zero_add, Array.getElem?_append_left (by simpa using hjl)]
      rw [show (l.map Value.string).toArray ++ [Value.string t].toArray = ((l ++ [t]).map Value.string).toArray by simp]
      rw [List.getElem?_toArray, List.getElem?_map, hj]
      rfl

end Go.Proofs.Ythfpinjegfgeiaa
