/- Rows of ints in memory: how they lie, what stores leave. -/
import Derived.Test.YtlefcjgemojhpabTreeEMem
namespace Go.Proofs.Ytlefcjgemojhpab.PTree
open Go Go.RowKit PPool
set_option maxRecDepth 100000
namespace TI
abbrev Pt := Int
abbrev pc : Pt → Value := Value.int .i64
abbrev PgAt := RowAt pc
abbrev OwnPg := OwnR pc 3
theorem pg_one (X : List Pt) : ∀ v ∈ X.map pc, v.oneCell' = true := by
  intro v hv
  obtain ⟨x, _, rfl⟩ := List.mem_map.1 hv
  rfl
theorem pg_len (X : List Pt) : (X.map pc).length = X.length := List.length_map ..
theorem block_info : (Try.prog.info? 3).map (fun i => (i.zero, i.size, i.bytes)) = some (some (.int .i64 0), 1, 8) := by kernel_rfl
theorem PgAt.flat {w : World} {b o : Nat} {X : List Pt} (h : PgAt w (some ⟨b, o, none⟩) X) : ∀ j u, (X.map pc)[j]? = some u → w.cell? ((⟨b, o, none⟩ : Addr).add j) = some u := by
  intro j u hj
  rw [List.getElem?_map] at hj
  cases hx : X[j]? with
  | none => rw [hx] at hj; cases hj
  | some y =>
    rw [hx] at hj
    cases hj
    obtain ⟨b', o', e, d1⟩ := h _ _ hx
    cases e
    rw [Addr.add_mid]
    exact d1
theorem PgAt.drew {w : World} {a : Option Addr} {X : List Pt} (h : PgAt w a X) : PgAt w.drew a X := h.keep fun _ _ => rfl
theorem own_pg {w : World} {base : Nat} {a : Option Addr} {n c : Nat} {X : List Pt} (h : OwnPg w base (.slice a n c) X) : PgAt w a X := by
  obtain ⟨a', c', e, hp, _⟩ := h.at_
  have ea : a = a' := by injection e
  rw [ea]; exact hp
theorem own_cap {w : World} {base : Nat} {a : Option Addr} {n c : Nat} {X : List Pt} (h : OwnPg w base (.slice a n c) X) : X.length ≤ c ∧ c ≤ maxLen := by
  obtain ⟨a', c', e, _, _, h1, h2⟩ := h.at_
  have ec : c = c' := by injection e
  rw [ec]; exact ⟨h1, h2⟩
theorem OwnPg.some {w : World} {base : Nat} {v : Value} {X : List Pt} (h : OwnPg w base v X) (hp : 0 < X.length) : ∃ g c, v = .slice (some ⟨g, 0, none⟩) X.length c ∧ X.length ≤ c := by
  rcases h.2 with ⟨_, h0⟩ | ⟨g, cap, cur, hv, _, _, h1, _⟩
  · omega
  · exact ⟨g, cap, hv, h1⟩
theorem own_block {w : World} {base g n c : Nat} {X : List Pt} (h : OwnPg w base (.slice (some ⟨g, 0, none⟩) n c) X) : ∃ cur : Array Value, w.heap[g]? = some (.cells cur 3 (0, 0)) ∧ cur.size = c ∧ n = X.length ∧ X.length ≤ c ∧ c ≤ maxLen ∧ base ≤ g ∧ cur.toList.take X.length = X.map pc := by
  rcases h.2 with ⟨e, _⟩ | ⟨g', cap, cur, hv, hg, hh, h1, h2, h3, h4⟩
  · cases e
  · injection hv with e1 e2 e3
    have eg : g = g' := by injection e1 with e1; injection e1
    subst eg; subst e2; subst e3
    exact ⟨cur, hh, by omega, rfl, h1, h2, hg, by simpa using h4⟩
/-- Pointers laid over a part of it, and behind it. -/
theorem own_lay {w : World} {base g n c : Nat} {X : List Pt} (h : OwnPg w base (.slice (some ⟨g, 0, none⟩) n c) X) (k : Nat) (Y : List Pt) (hk : k ≤ X.length) (hkY : k + Y.length ≤ c) :
    OwnPg (w.setCells g k (Y.map pc)) base (.slice (some ⟨g, 0, none⟩) (X.take k ++ Y ++ X.drop (k + Y.length)).length c) (X.take k ++ Y ++ X.drop (k + Y.length)) := by
  obtain ⟨cur, hh, h3, rfl, h1, h2, hg, h4⟩ := own_block h
  have hl := pg_len Y
  have hfit : k + (Y.map pc).length ≤ cur.size := by omega
  have hc : cur.toList.length = c := by rw [Array.length_toList, h3]
  rw [setCells_eq_setRow Try.prog w g k cur _ (Y.map pc) hh hfit (pg_one Y)]
  refine ⟨by rw [pg_len, Nat.mul_one], .inr ⟨g, c, _, rfl, hg, setRow_heap w g cur _ _ _ hh, ?_, h2, ?_, ?_⟩⟩
  · simp; omega
  · rw [List.size_toArray, List.length_append, List.length_append, List.length_take, List.length_drop, hc]
    omega
  · rw [List.map_append, List.map_append, List.map_take, List.map_drop, ← h4, List.take_take, Nat.min_eq_left (by omega), List.drop_take]
    have e1 : (X.take k ++ Y ++ X.drop (k + Y.length)).length = k + Y.length + (X.length - (k + Y.length)) := by simp; omega
    rw [e1]
    show List.take _ (List.take k cur.toList ++ Y.map pc ++ List.drop (k + (Y.map pc).length) cur.toList) = _
    have e2 : (List.take k cur.toList ++ Y.map pc).length = (k + Y.length) := by rw [List.length_append, List.length_take, hl, hc]; omega
    rw [List.take_append, e2, List.take_of_length_le (by rw [e2]; omega), hl]
    congr 2
    omega
theorem zero_cells (k : Nat) : Builtin.zeroCells (Value.int .i64 0).cells k = ((List.replicate k (0 : Pt)).map pc).toArray := by
  apply Array.ext'
  apply List.ext_getElem?
  intro j
  show (Builtin.zeroCells (Value.int .i64 0).cells k).toList[j]? = ((List.replicate k (0 : Pt)).map pc)[j]?
  have e : (Value.int .i64 0).cells = #[.int .i64 0] := rfl
  rw [e]
  unfold Builtin.zeroCells
  rw [List.map_replicate, List.getElem?_replicate]
  by_cases hj : j < k
  · rw [if_pos hj]; simp [hj, Nat.mod_one]
  · rw [if_neg hj]; simp; omega
theorem slice_from (W : World) (g n c k : Nat) (hk : k ≤ n) : (Instr.slice 47 (.slice (some ⟨g, 0, none⟩) n c) (some (.int .i64 (k : Int))) none none).run Try.prog W = .ok (.slice (if c = k then some ⟨g, 0, none⟩ else some ⟨g, k, none⟩) (n - k) (c - k)) W := by
  have u := Try.underlying47
  have z := Try.sizeOf3
  go_simp
theorem run_copy_pg {w : World} {base g n c : Nat} {X : List Pt} (h : OwnPg w base (.slice (some ⟨g, 0, none⟩) n c) X) (ty : TypeId) (k dLen dCap : Nat) (a : Addr) (sLen sCap : Nat) (Y : List Pt) (hY : Y.length = Nat.min sLen dLen) (hk : k + Y.length ≤ c)
    (hs : ∀ j u, (Y.map pc)[j]? = some u → w.cell? (a.add j) = some u) :
    (Builtin.copy_ #[47, 47] ty #[.slice (some ⟨g, k, none⟩) dLen dCap, .slice (some a) sLen sCap]).run Try.prog w = .ok (goInt Y.length) (w.setCells g k (Y.map pc)) := by
  obtain ⟨cur, hh, h3, rfl, h1, h2, hg, h4⟩ := own_block h
  obtain ⟨i0, hi, hz0, hz1, hz2⟩ := info_parts block_info
  have hl := run_loadCells_list (P := Try.prog) w a (Y.map pc) hs
  have hst := run_storeCells_cells (P := Try.prog) g k (Y.map pc) 0 w (fun j hj => by rw [pg_len] at hj; rw [cell_of_row w g _ cur _ _ hh]; simp; omega) (fun j _ => by simp [World.frozen?, hh]) (pg_one Y)
  have hn : (Y.map pc).length = Y.length := pg_len Y
  rw [hn] at hl
  simp [Builtin.copy_, run_underlying Try.underlying47, Builtin.lenOf, Builtin.firstCells, sizeOf, typeInfo, hi, hz1, ← hY, hl, hst]
end TI
end Go.Proofs.Ytlefcjgemojhpab.PTree
