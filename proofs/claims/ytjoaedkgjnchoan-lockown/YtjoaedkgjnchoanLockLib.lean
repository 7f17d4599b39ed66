/- Go's slices package at locks, walked: Clone, Delete, Insert: each answers what the plain lists say, in a row of one's own; no other block turns. Conditions: how many locks there are. -/
import Derived.Test.YtjoaedkgjnchoanLockMem
import Derived.Lib.SliceRun
import Derived.Lib.Overlaps
import Derived.Lib.AppendZerosOnto
import Derived.OrdersHeld
namespace Go.Proofs.Ytjoaedkgjnchoan.PLock
open Go Go.RowKit PPool
set_option maxRecDepth 100000

theorem lk_drop (X : List Lk.Lo) (k : Nat) : (X.drop k).flatMap lc = (X.flatMap lc).drop (k * 2) := by
  have h1 := lk_take X k
  have h2 : X.flatMap lc = (X.take k).flatMap lc ++ (X.drop k).flatMap lc := by rw [← List.flatMap_append, List.take_append_drop]
  by_cases hk : k ≤ X.length
  · rw [h2, List.drop_left' (by rw [lk_len, List.length_take]; omega)]
  · rw [List.drop_of_length_le (by omega), List.drop_of_length_le (by rw [lk_len]; omega)]; rfl
theorem LkAt.flat {w : World} {b o : Nat} {X : List Lk.Lo} (h : LkAt w (some ⟨b, o, none⟩) X) : ∀ j u, (X.flatMap lc)[j]? = some u → w.cell? ((⟨b, o, none⟩ : Addr).add j) = some u := by
  intro j u hj
  have hjl : j < X.length * 2 := by have := (List.getElem?_eq_some_iff.1 hj).1; rwa [lk_len] at this
  obtain ⟨y, hy⟩ : ∃ y, X[j / 2]? = some y := ⟨_, List.getElem?_eq_getElem (by omega)⟩
  obtain ⟨b', o', e, d1, d2⟩ := h _ _ hy
  cases e
  rw [Addr.add_mid]
  rcases Nat.mod_two_eq_zero_or_one j with hm | hm
  · have e1 : j = j / 2 * 2 + 0 := by omega
    have e2 := flat_at (enc := lc) (c := 2) X (fun x _ => lc_len x) (j / 2) y hy 0 (.int .i64 y.x) rfl
    rw [← e1, hj] at e2
    rw [e2, ← d1]
    congr 2
    omega
  · have e1 : j = j / 2 * 2 + 1 := by omega
    have e2 := flat_at (enc := lc) (c := 2) X (fun x _ => lc_len x) (j / 2) y hy 1 (.int .i64 y.m) rfl
    rw [← e1, hj] at e2
    rw [e2, ← d2]
    congr 2
    omega
theorem LkAt.drop {w : World} {b o : Nat} {X : List Lk.Lo} (h : LkAt w (some ⟨b, o, none⟩) X) (k : Nat) : LkAt w (some ⟨b, o + k * 2, none⟩) (X.drop k) := fun j x hj => by
  rw [List.getElem?_drop] at hj
  obtain ⟨b', o', e, h1, h2⟩ := h _ x hj
  cases e
  refine ⟨b, o + k * 2, rfl, ?_, ?_⟩
  · rw [← h1]; congr 2; omega
  · rw [← h2]; congr 2; omega
theorem own_block {w : World} {base g n c : Nat} {X : List Lk.Lo} (h : OwnLk w base (.slice (some ⟨g, 0, none⟩) n c) X) : ∃ cur : Array Value, w.heap[g]? = some (.cells cur 62 (0, 0)) ∧ cur.size = c * 2 ∧ n = X.length ∧ X.length ≤ c ∧ c ≤ maxLen ∧ base ≤ g ∧ cur.toList.take (X.length * 2) = X.flatMap lc := by
  rcases h.2 with ⟨e, _⟩ | ⟨g', cap, cur, hv, hg, hh, h1, h2, h3, h4⟩
  · cases e
  · injection hv with e1 e2 e3
    have eg : g = g' := by injection e1 with e1; injection e1
    subst eg; subst e2; subst e3
    exact ⟨cur, hh, h3, rfl, h1, h2, hg, h4⟩
/-- Blocks laid over a part of it, and behind it. -/
theorem own_lay {w : World} {base g n c : Nat} {X : List Lk.Lo} (h : OwnLk w base (.slice (some ⟨g, 0, none⟩) n c) X) (k : Nat) (Y : List Lk.Lo) (hk : k ≤ X.length) (hkY : k + Y.length ≤ c) :
    OwnLk (w.setCells g (k * 2) (Y.flatMap lc)) base (.slice (some ⟨g, 0, none⟩) (X.take k ++ Y ++ X.drop (k + Y.length)).length c) (X.take k ++ Y ++ X.drop (k + Y.length)) := by
  obtain ⟨cur, hh, h3, rfl, h1, h2, hg, h4⟩ := own_block h
  have hl := lk_len Y
  have hfit : k * 2 + (Y.flatMap lc).length ≤ cur.size := by omega
  have hc : cur.toList.length = c * 2 := by rw [Array.length_toList, h3]
  rw [setCells_eq_setRow Try.prog w g (k * 2) cur _ (Y.flatMap lc) hh hfit (lk_one Y)]
  refine ⟨by rw [lk_len], .inr ⟨g, c, _, rfl, hg, setRow_heap w g cur _ _ _ hh, ?_, h2, ?_, ?_⟩⟩
  · simp; omega
  · rw [List.size_toArray, List.length_append, List.length_append, List.length_take, List.length_drop, hc]
    omega
  · rw [List.flatMap_append, List.flatMap_append, lk_take, lk_drop, ← h4, List.take_take, Nat.min_eq_left (by omega), List.drop_take]
    have e1 : (X.take k ++ Y ++ X.drop (k + Y.length)).length = k + Y.length + (X.length - (k + Y.length)) := by simp; omega
    rw [e1]
    show List.take _ (List.take (k * 2) cur.toList ++ Y.flatMap lc ++ List.drop (k * 2 + (Y.flatMap lc).length) cur.toList) = _
    have e2 : (List.take (k * 2) cur.toList ++ Y.flatMap lc).length = (k + Y.length) * 2 := by rw [List.length_append, List.length_take, hl, hc]; omega
    rw [List.take_append, e2, List.take_of_length_le (by rw [e2]; omega), hl]
    congr 2
    · omega
    · congr 1; omega
theorem zero_cells (k : Nat) : Builtin.zeroCells (Value.agg #[.int .i64 0, .int .i64 0]).cells k = ((List.replicate k Lk.zero').flatMap lc).toArray := by
  rw [← made_half]
  rfl
theorem slice_from (W : World) (g n c k : Nat) (hk : k ≤ n) : (Instr.slice 64 (.slice (some ⟨g, 0, none⟩) n c) (some (.int .i64 (k : Int))) none none).run Try.prog W = .ok (.slice (if c = k then some ⟨g, 0, none⟩ else some ⟨g, k * 2, none⟩) (n - k) (c - k)) W := by
  have u := Try.underlying64
  have z := Try.sizeOf62
  go_simp
theorem run_copy_lk {w : World} {base g n c : Nat} {X : List Lk.Lo} (h : OwnLk w base (.slice (some ⟨g, 0, none⟩) n c) X) (ty : TypeId) (k dLen dCap : Nat) (a : Addr) (sLen sCap : Nat) (Y : List Lk.Lo) (hY : Y.length = Nat.min sLen dLen) (hk : k + Y.length ≤ c)
    (hs : ∀ j u, (Y.flatMap lc)[j]? = some u → w.cell? (a.add j) = some u) :
    (Builtin.copy_ #[64, 64] ty #[.slice (some ⟨g, k * 2, none⟩) dLen dCap, .slice (some a) sLen sCap]).run Try.prog w = .ok (goInt Y.length) (w.setCells g (k * 2) (Y.flatMap lc)) := by
  obtain ⟨cur, hh, h3, rfl, h1, h2, hg, h4⟩ := own_block h
  obtain ⟨i0, hi, hz0, hz1, hz2⟩ := info_parts lock_info
  have hl := run_loadCells_list (P := Try.prog) w a (Y.flatMap lc) hs
  have hst := run_storeCells_cells (P := Try.prog) g (k * 2) (Y.flatMap lc) 0 w (fun j hj => by rw [lk_len] at hj; rw [cell_of_row w g _ cur _ _ hh]; simp; omega) (fun j _ => by simp [World.frozen?, hh]) (lk_one Y)
  have hn : (Y.flatMap lc).length = Y.length * 2 := lk_len Y
  rw [hn] at hl
  simp [Builtin.copy_, run_underlying Try.underlying64, Builtin.lenOf, Builtin.firstCells, sizeOf, typeInfo, hi, hz1, ← hY, hl, hst]

abbrev ownB (v : Value) : Nat → Prop := fun b => v.ownBlock = some b
theorem goes_of_below {own : Nat → Prop} {w w' : World} (hb : Below w.heap.size w w') : Goes own w w' own := ⟨hb.os, hb.tape, hb.output, hb.size, fun k hk _ => hb.block k hk, fun _ h => .inl h⟩
theorem goes_lay {w w1 : World} {g : Nat} (h : Goes (fun b => b = g) w w1 (fun b => b = g)) (k : Nat) (cs : List Value) : Goes (fun b => b = g) w (w1.setCells g k cs) (fun b => b = g) := goes_set (own := fun b => b = g) h (.inl rfl) k cs
theorem own_front {w : World} {base g c m : Nat} {X : List Lk.Lo} (h : OwnLk w base (.slice (some ⟨g, 0, none⟩) X.length c) X) (k : Nat) (hk : k ≤ X.length) (hm : m = k) : OwnLk w base (.slice (some ⟨g, 0, none⟩) m c) (X.take k) := by
  subst hm
  obtain ⟨cur, hh, h3, _, h1, h2, hg, h4⟩ := own_block h
  refine ⟨by rw [lk_len], .inr ⟨g, c, cur, by rw [List.length_take, Nat.min_eq_left hk], hg, hh, by rw [List.length_take]; omega, h2, h3, ?_⟩⟩
  rw [lk_take, ← h4, List.take_take, List.length_take]
  congr 1
  omega

/-- The zeros behind what is left. -/
theorem run_clear_lk {w : World} {base g n c : Nat} {X : List Lk.Lo} (h : OwnLk w base (.slice (some ⟨g, 0, none⟩) n c) X) (ty : TypeId) (k d cc : Nat) (hd : 0 < d) (hk : k + d ≤ c) :
    (Builtin.clear_ #[64] ty #[.slice (some ⟨g, k * 2, none⟩) d cc]).run Try.prog w = .ok (.tuple #[]) (w.setCells g (k * 2) ((List.replicate d Lk.zero').flatMap lc)) := by
  obtain ⟨cur, hh, h3, rfl, h1, h2, hg, h4⟩ := own_block h
  have hz : (Builtin.zeroCells (Value.agg #[.int .i64 0, .int .i64 0]).cells d).toList = (List.replicate d Lk.zero').flatMap lc := by rw [zero_cells]
  have hv := Try.zeroValue62
  have hst := run_storeCells_cells (P := Try.prog) g (k * 2) ((List.replicate d Lk.zero').flatMap lc) 0 w (fun j hj => by rw [lk_len, List.length_replicate] at hj; rw [cell_of_row w g _ cur _ _ hh]; simp; omega) (fun j _ => by simp [World.frozen?, hh]) (lk_one _)
  simp only [Nat.add_zero] at hst
  generalize (List.replicate d Lk.zero').flatMap lc = Z at *
  obtain ⟨e, rfl⟩ : ∃ e, d = e + 1 := ⟨d - 1, by omega⟩
  simp [Builtin.clear_, run_underlying Try.underlying64, hv, hz, hst]
end Go.Proofs.Ytjoaedkgjnchoan.PLock
