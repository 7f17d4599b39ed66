/- Rows of edges of one's own: edges laid over a part, a beginning of them, the noughts behind what is left; what a slice of edges holds, cell by cell. No conditions. -/
import Derived.Test.YtbgcldckgiiedacDoorWaitNum
import Derived.Test.YtbgcldckgiiedacDoorGraphMem
import Derived.Lib.SliceRun
import Derived.Lib.Overlaps
import Derived.Lib.AppendZerosOnto
import Derived.OrdersHeld
namespace Go.Proofs.YtbgcldckgiiedacDoor.PWait
open Go Go.RowKit PPool PGraph
set_option maxRecDepth 100000

theorem pg_drop (X : List Gr.Ed) (k : Nat) : (X.drop k).flatMap sc = (X.flatMap sc).drop (k * 2) := by
  have h1 := pg_take X k
  have h2 : X.flatMap sc = (X.take k).flatMap sc ++ (X.drop k).flatMap sc := by rw [← List.flatMap_append, List.take_append_drop]
  by_cases hk : k ≤ X.length
  · rw [h2, List.drop_left' (by rw [pg_len, List.length_take]; omega)]
  · rw [List.drop_of_length_le (by omega), List.drop_of_length_le (by rw [pg_len]; omega)]; rfl
theorem PgAt.flat {w : World} {b o : Nat} {X : List Gr.Ed} (h : PgAt w (some ⟨b, o, none⟩) X) : ∀ j u, (X.flatMap sc)[j]? = some u → w.cell? ((⟨b, o, none⟩ : Addr).add j) = some u := by
  intro j u hj
  have hjl : j < X.length * 2 := by have := (List.getElem?_eq_some_iff.1 hj).1; rwa [pg_len] at this
  obtain ⟨y, hy⟩ : ∃ y, X[j / 2]? = some y := ⟨_, List.getElem?_eq_getElem (by omega)⟩
  obtain ⟨b', o', e, d1, d2⟩ := h _ _ hy
  cases e
  rw [Addr.add_mid]
  rcases Nat.mod_two_eq_zero_or_one j with hm | hm
  · have e1 : j = j / 2 * 2 + 0 := by omega
    have e2 := flat_at (enc := sc) (c := 2) X (fun x _ => sc_len x) (j / 2) y hy 0 (.int .i64 y.f) rfl
    rw [← e1, hj] at e2
    rw [e2, ← d1]
    congr 2
    omega
  · have e1 : j = j / 2 * 2 + 1 := by omega
    have e2 := flat_at (enc := sc) (c := 2) X (fun x _ => sc_len x) (j / 2) y hy 1 (.int .i64 y.t) rfl
    rw [← e1, hj] at e2
    rw [e2, ← d2]
    congr 2
    omega
theorem PgAt.drop {w : World} {b o : Nat} {X : List Gr.Ed} (h : PgAt w (some ⟨b, o, none⟩) X) (k : Nat) : PgAt w (some ⟨b, o + k * 2, none⟩) (X.drop k) := fun j x hj => by
  rw [List.getElem?_drop] at hj
  obtain ⟨b', o', e, h1, h2⟩ := h _ x hj
  cases e
  refine ⟨b, o + k * 2, rfl, ?_, ?_⟩
  · rw [← h1]; congr 2; omega
  · rw [← h2]; congr 2; omega
theorem own_block {w : World} {base g n c : Nat} {X : List Gr.Ed} (h : OwnPg w base (.slice (some ⟨g, 0, none⟩) n c) X) : ∃ cur : Array Value, w.heap[g]? = some (.cells cur 34 (0, 0)) ∧ cur.size = c * 2 ∧ n = X.length ∧ X.length ≤ c ∧ c ≤ maxLen ∧ base ≤ g ∧ cur.toList.take (X.length * 2) = X.flatMap sc := by
  rcases h.2 with ⟨e, _⟩ | ⟨g', cap, cur, hv, hg, hh, h1, h2, h3, h4⟩
  · cases e
  · injection hv with e1 e2 e3
    have eg : g = g' := by injection e1 with e1; injection e1
    subst eg; subst e2; subst e3
    exact ⟨cur, hh, h3, rfl, h1, h2, hg, h4⟩
/-- Bedges laid over a part of it, and behind it. -/
theorem own_lay {w : World} {base g n c : Nat} {X : List Gr.Ed} (h : OwnPg w base (.slice (some ⟨g, 0, none⟩) n c) X) (k : Nat) (Y : List Gr.Ed) (hk : k ≤ X.length) (hkY : k + Y.length ≤ c) :
    OwnPg (w.setCells g (k * 2) (Y.flatMap sc)) base (.slice (some ⟨g, 0, none⟩) (X.take k ++ Y ++ X.drop (k + Y.length)).length c) (X.take k ++ Y ++ X.drop (k + Y.length)) := by
  obtain ⟨cur, hh, h3, rfl, h1, h2, hg, h4⟩ := own_block h
  have hl := pg_len Y
  have hfit : k * 2 + (Y.flatMap sc).length ≤ cur.size := by omega
  have hc : cur.toList.length = c * 2 := by rw [Array.length_toList, h3]
  rw [setCells_eq_setRow Tryd.prog w g (k * 2) cur _ (Y.flatMap sc) hh hfit (pg_one Y)]
  refine ⟨by rw [pg_len], .inr ⟨g, c, _, rfl, hg, setRow_heap w g cur _ _ _ hh, ?_, h2, ?_, ?_⟩⟩
  · simp; omega
  · rw [List.size_toArray, List.length_append, List.length_append, List.length_take, List.length_drop, hc]
    omega
  · rw [List.flatMap_append, List.flatMap_append, pg_take, pg_drop, ← h4, List.take_take, Nat.min_eq_left (by omega), List.drop_take]
    have e1 : (X.take k ++ Y ++ X.drop (k + Y.length)).length = k + Y.length + (X.length - (k + Y.length)) := by simp; omega
    rw [e1]
    show List.take _ (List.take (k * 2) cur.toList ++ Y.flatMap sc ++ List.drop (k * 2 + (Y.flatMap sc).length) cur.toList) = _
    have e2 : (List.take (k * 2) cur.toList ++ Y.flatMap sc).length = (k + Y.length) * 2 := by rw [List.length_append, List.length_take, hl, hc]; omega
    rw [List.take_append, e2, List.take_of_length_le (by rw [e2]; omega), hl]
    congr 2
    · omega
    · congr 1; omega
theorem zero_cells (k : Nat) : Builtin.zeroCells (Value.agg #[.int .i64 0, .int .i64 0]).cells k = ((List.replicate k Gr.zero').flatMap sc).toArray := by
  rw [← made_half]
  rfl
theorem slice_from (W : World) (g n c k : Nat) (hk : k ≤ n) : (Instr.slice 22 (.slice (some ⟨g, 0, none⟩) n c) (some (.int .i64 (k : Int))) none none).run Tryd.prog W = .ok (.slice (if c = k then some ⟨g, 0, none⟩ else some ⟨g, k * 2, none⟩) (n - k) (c - k)) W := by
  have u := Tryd.underlying22
  have z := Tryd.sizeOf34
  go_simp
theorem run_copy_pg {w : World} {base g n c : Nat} {X : List Gr.Ed} (h : OwnPg w base (.slice (some ⟨g, 0, none⟩) n c) X) (ty : TypeId) (k dLen dCap : Nat) (a : Addr) (sLen sCap : Nat) (Y : List Gr.Ed) (hY : Y.length = Nat.min sLen dLen) (hk : k + Y.length ≤ c)
    (hs : ∀ j u, (Y.flatMap sc)[j]? = some u → w.cell? (a.add j) = some u) :
    (Builtin.copy_ #[22, 22] ty #[.slice (some ⟨g, k * 2, none⟩) dLen dCap, .slice (some a) sLen sCap]).run Tryd.prog w = .ok (goInt Y.length) (w.setCells g (k * 2) (Y.flatMap sc)) := by
  obtain ⟨cur, hh, h3, rfl, h1, h2, hg, h4⟩ := own_block h
  obtain ⟨i0, hi, hz0, hz1, hz2⟩ := info_parts edge_info
  have hl := run_loadCells_list (P := Tryd.prog) w a (Y.flatMap sc) hs
  have hst := run_storeCells_cells (P := Tryd.prog) g (k * 2) (Y.flatMap sc) 0 w (fun j hj => by rw [pg_len] at hj; rw [cell_of_row w g _ cur _ _ hh]; simp; omega) (fun j _ => by simp [World.frozen?, hh]) (pg_one Y)
  have hn : (Y.flatMap sc).length = Y.length * 2 := pg_len Y
  rw [hn] at hl
  simp [Builtin.copy_, run_underlying Tryd.underlying22, Builtin.lenOf, Builtin.firstCells, sizeOf, typeInfo, hi, hz1, ← hY, hl, hst]

abbrev ownB (v : Value) : Nat → Prop := fun b => v.ownBlock = some b
theorem goes_of_below {own : Nat → Prop} {w w' : World} (hb : Below w.heap.size w w') : Goes own w w' own := ⟨hb.os, hb.tape, hb.output, hb.size, fun k hk _ => hb.block k hk, fun _ h => .inl h⟩
theorem goes_lay {w w1 : World} {g : Nat} (h : Goes (fun b => b = g) w w1 (fun b => b = g)) (k : Nat) (cs : List Value) : Goes (fun b => b = g) w (w1.setCells g k cs) (fun b => b = g) := goes_set (own := fun b => b = g) h (.inl rfl) k cs
theorem own_front {w : World} {base g c m : Nat} {X : List Gr.Ed} (h : OwnPg w base (.slice (some ⟨g, 0, none⟩) X.length c) X) (k : Nat) (hk : k ≤ X.length) (hm : m = k) : OwnPg w base (.slice (some ⟨g, 0, none⟩) m c) (X.take k) := by
  subst hm
  obtain ⟨cur, hh, h3, _, h1, h2, hg, h4⟩ := own_block h
  refine ⟨by rw [pg_len], .inr ⟨g, c, cur, by rw [List.length_take, Nat.min_eq_left hk], hg, hh, by rw [List.length_take]; omega, h2, h3, ?_⟩⟩
  rw [pg_take, ← h4, List.take_take, List.length_take]
  congr 1
  omega

/-- The zeros behind what is left. -/
theorem run_clear_pg {w : World} {base g n c : Nat} {X : List Gr.Ed} (h : OwnPg w base (.slice (some ⟨g, 0, none⟩) n c) X) (ty : TypeId) (k d cc : Nat) (hd : 0 < d) (hk : k + d ≤ c) :
    (Builtin.clear_ #[22] ty #[.slice (some ⟨g, k * 2, none⟩) d cc]).run Tryd.prog w = .ok (.tuple #[]) (w.setCells g (k * 2) ((List.replicate d Gr.zero').flatMap sc)) := by
  obtain ⟨cur, hh, h3, rfl, h1, h2, hg, h4⟩ := own_block h
  have hz : (Builtin.zeroCells (Value.agg #[.int .i64 0, .int .i64 0]).cells d).toList = (List.replicate d Gr.zero').flatMap sc := by rw [zero_cells]
  have hv := Tryd.zeroValue34
  have hst := run_storeCells_cells (P := Tryd.prog) g (k * 2) ((List.replicate d Gr.zero').flatMap sc) 0 w (fun j hj => by rw [pg_len, List.length_replicate] at hj; rw [cell_of_row w g _ cur _ _ hh]; simp; omega) (fun j _ => by simp [World.frozen?, hh]) (pg_one _)
  simp only [Nat.add_zero] at hst
  generalize (List.replicate d Gr.zero').flatMap sc = Z at *
  obtain ⟨e, rfl⟩ : ∃ e, d = e + 1 := ⟨d - 1, by omega⟩
  simp [Builtin.clear_, run_underlying Tryd.underlying22, hv, hz, hst]
end Go.Proofs.YtbgcldckgiiedacDoor.PWait
