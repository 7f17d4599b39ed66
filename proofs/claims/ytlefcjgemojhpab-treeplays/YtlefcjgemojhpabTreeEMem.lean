/- Rows of entries (a key, a text) in memory: how they lie, what stores leave; slices.Clone, Delete, Insert of them, walked: each answers what the plain lists say, in a row of one's own; no other block turns. Conditions: how many there are. -/
import Derived.Test.YtlefcjgemojhpabPoolMem
import Derived.Test.YtlefcjgemojhpabTreeNum
import Derived.Test.YtlefcjgemojhpabChecked
import Derived.Deep.RegionHeld3
import Derived.Deep.RegionLaw
import Derived.Lib.SliceRun
import Derived.Lib.Overlaps
import Derived.Lib.AppendZerosOnto
import Derived.OrdersHeld
namespace Go.Proofs.Ytlefcjgemojhpab.PTree
open Go Go.RowKit PPool
set_option maxRecDepth 100000
/-- A slice's own block. -/
abbrev ownB (v : Value) : Nat → Prop := fun k => v.ownBlock = some k
theorem goes_of_below {own : Nat → Prop} {w w' : World} (hb : Below w.heap.size w w') : Goes own w w' own := ⟨hb.os, hb.tape, hb.output, hb.size, fun k hk _ => hb.block k hk, fun _ h => .inl h⟩
namespace TE


/-- A block's two cells. -/
def sc (x : En) : List Value := [.int .i64 x.k, .string x.t]
theorem sc_len (x : En) : (sc x).length = 2 := rfl
theorem sc_one (x : En) : ∀ v ∈ sc x, v.oneCell' = true := by
  intro v hv
  simp only [sc, List.mem_cons, List.not_mem_nil, or_false] at hv
  rcases hv with rfl | rfl <;> rfl
theorem pg_one (X : List En) : ∀ v ∈ X.flatMap sc, v.oneCell' = true := by
  intro v hv
  obtain ⟨x, _, h⟩ := List.mem_flatMap.1 hv
  exact sc_one x v h
theorem pg_len (X : List En) : (X.flatMap sc).length = X.length * 2 := flat_len X fun x _ => sc_len x

theorem pg_take : ∀ (X : List En) (k : Nat), (X.take k).flatMap sc = (X.flatMap sc).take (k * 2)
  | [], k => by simp
  | x :: X, 0 => by simp
  | x :: X, k + 1 => by
    rw [List.take_succ_cons, List.flatMap_cons, List.flatMap_cons, pg_take X k, show (k + 1) * 2 = (sc x).length + k * 2 by rw [sc_len]; omega, List.take_length_add_append]

/-- A slice of blocks: its cells lie where it says. -/
def PgAt (w : World) (a : Option Addr) (X : List En) : Prop := ∀ (j : Nat) (x : En), X[j]? = some x →
  ∃ b o, a = some ⟨b, o, none⟩ ∧ w.cell? ⟨b, o + j * 2, none⟩ = some (.int .i64 x.k) ∧ w.cell? ⟨b, o + j * 2 + 1, none⟩ = some (.string x.t)
theorem PgAt.nil (w : World) (a : Option Addr) : PgAt w a [] := fun j x h => by simp at h
theorem PgAt.below {w w' : World} {a : Option Addr} {X : List En} (h : PgAt w a X) (hb : Below w.heap.size w w') : PgAt w' a X := fun j x hj => by
  obtain ⟨b, o, e, h1, h2⟩ := h j x hj
  exact ⟨b, o, e, (hb.cell (p := ⟨b, o + j * 2, none⟩) (World.block_lt_of_cell? w _ h1)).trans h1, (hb.cell (p := ⟨b, o + j * 2 + 1, none⟩) (World.block_lt_of_cell? w _ h2)).trans h2⟩
theorem PgAt.keep {w w' : World} {a : Option Addr} {X : List En} (h : PgAt w a X) (hb : ∀ q, a = some q → w'.heap[q.block]? = w.heap[q.block]?) : PgAt w' a X := fun j x hj => by
  obtain ⟨b, o, e, h1, h2⟩ := h j x hj
  have := hb _ e
  exact ⟨b, o, e, (World.cell?_of_block (a := ⟨b, o + j * 2, none⟩) this).trans h1, (World.cell?_of_block (a := ⟨b, o + j * 2 + 1, none⟩) this).trans h2⟩
theorem PgAt.take {w : World} {a : Option Addr} {X : List En} (h : PgAt w a X) (k : Nat) : PgAt w a (X.take k) := fun j x hj => by
  rw [List.getElem?_take] at hj
  split at hj
  · exact h j x hj
  · cases hj

theorem block_info : (Try.prog.info? 87).map (fun i => (i.zero, i.size, i.bytes)) = some (some (.agg #[.int .i64 0, .string ⟨#[]⟩]), 2, 24) := by kernel_rfl

/-- A row of blocks of one's own. -/
def OwnPg (w : World) (base : Nat) (v : Value) (X : List En) : Prop := w.ownsRow base 87 2 v X.length (X.flatMap sc)
theorem OwnPg.nil (w : World) (base : Nat) : OwnPg w base (.slice none 0 0) [] := World.ownsRow_nil _ _ _ _
theorem OwnPg.keep {w w' : World} {base : Nat} {v : Value} {X : List En} (h : OwnPg w base v X) (hb : ∀ g, v.ownBlock = some g → w'.heap[g]? = w.heap[g]?) : OwnPg w' base v X := ownsRow_of_block h hb
theorem OwnPg.below {w w' : World} {base : Nat} {v : Value} {X : List En} (h : OwnPg w base v X) (hb : Below w.heap.size w w') : OwnPg w' base v X :=
  h.keep fun g hg => hb.block g (h.lt g hg).2
theorem OwnPg.at_ {w : World} {base : Nat} {v : Value} {X : List En} (h : OwnPg w base v X) : ∃ a c, v = .slice a X.length c ∧ PgAt w a X ∧ (∀ q, a = some q → base ≤ q.block) ∧ X.length ≤ c ∧ c ≤ maxLen := by
  rcases h.2 with ⟨rfl, h0⟩ | ⟨g, cap, cur, hv, hb, hg, h1, h2, h3, h4⟩
  · have : X = [] := List.eq_nil_of_length_eq_zero h0
    subst this
    exact ⟨none, 0, rfl, PgAt.nil _ _, (fun q hq => by cases hq), Nat.le_refl _, Nat.zero_le _⟩
  · refine ⟨_, cap, hv, fun j x hj => ⟨g, 0, rfl, ?_, ?_⟩, fun q hq => ?_, h1, h2⟩
    · have e := flat_at (enc := sc) (c := 2) X (fun x _ => sc_len x) j x hj 0 (.int .i64 x.k) rfl
      rw [← h4, List.getElem?_take] at e
      split at e
      · rw [cell_of_row w g _ cur _ _ hg, Nat.zero_add]
        simpa using e
      · cases e
    · have e := flat_at (enc := sc) (c := 2) X (fun x _ => sc_len x) j x hj 1 (.string x.t) rfl
      rw [← h4, List.getElem?_take] at e
      split at e
      · rw [cell_of_row w g _ cur _ _ hg, Nat.zero_add]
        simpa using e
      · cases e
    · cases hq; exact hb
theorem OwnPg.lower {w : World} {base base' : Nat} {v : Value} {X : List En} (h : OwnPg w base v X) (hb : base' ≤ base) : OwnPg w base' v X := by
  refine ⟨h.1, ?_⟩
  rcases h.2 with e | ⟨g, cap, cur, hv, hg, r⟩
  · exact .inl e
  · exact .inr ⟨g, cap, cur, hv, Nat.le_trans hb hg, r⟩
/-- A beginning of it. -/
theorem OwnPg.cut {w : World} {base : Nat} {a : Option Addr} {n c : Nat} {X : List En} (h : OwnPg w base (.slice a n c) X) (k : Nat) (hk : k ≤ X.length) (hp : 0 < X.length) : OwnPg w base (.slice a k c) (X.take k) := by
  refine ⟨by rw [pg_len], ?_⟩
  rcases h.2 with ⟨_, h0⟩ | ⟨g, cap, cur, hv, hg, hh, h1, h2, h3, h4⟩
  · omega
  · injection hv with e1 e2 e3
    subst e1; subst e3
    refine .inr ⟨g, c, cur, by rw [List.length_take, Nat.min_eq_left hk], hg, hh, by rw [List.length_take]; omega, h2, h3, ?_⟩
    have e := pg_take X k
    rw [e, ← h4, List.take_take, List.length_take]
    congr 1
    omega
/-- A block laid over another one. -/
theorem OwnPg.set {w : World} {base g n c : Nat} {X : List En} (h : OwnPg w base (.slice (some ⟨g, 0, none⟩) n c) X) (k : Nat) (hk : k < X.length) (x : En) :
    OwnPg (w.setCells g (k * 2) (sc x)) base (.slice (some ⟨g, 0, none⟩) n c) (X.set k x) := by
  rcases h.2 with ⟨e, _⟩ | ⟨g', cap, cur, hv, hg, hh, h1, h2, h3, h4⟩
  · cases e
  · injection hv with e1 e2 e3
    have eg : g = g' := by injection e1 with e1; injection e1
    subst eg; subst e2; subst e3
    have hfit : k * 2 + (sc x).length ≤ cur.size := by rw [sc_len, h3]; omega
    rw [setCells_eq_setRow Try.prog w g (k * 2) cur _ (sc x) hh hfit (sc_one x)]
    refine ⟨by rw [pg_len], .inr ⟨g, c, _, by rw [List.length_set], hg, setRow_heap w g cur _ _ _ hh, by rw [List.length_set]; exact h1, h2, ?_, ?_⟩⟩
    · rw [List.size_toArray, List.length_append, List.length_append, List.length_take, List.length_drop, Array.length_toList]
      omega
    · have e := flat_set (enc := sc) (c := 2) X (fun x _ => sc_len x) k x hk (sc_len x)
      rw [e, ← h4, List.length_set]
      have l0 : cur.toList.length = c * 2 := by rw [Array.length_toList, h3]
      have s2 : (sc x).length = 2 := rfl
      show List.take _ (List.take (k * 2) cur.toList ++ sc x ++ List.drop (k * 2 + (sc x).length) cur.toList) = _
      rw [s2, List.take_take, Nat.min_eq_left (by omega), List.take_append, List.take_of_length_le (by rw [List.length_append, List.length_take, s2]; omega), List.drop_take]
      congr 2
      rw [List.length_append, List.length_take, s2]
      omega
theorem OwnPg.grows {w' : World} {base : Nat} {v' : Value} {X : List En} {x : En} (h : w'.ownsRow base 87 2 v' (X.length + 1) (X.flatMap sc ++ sc x)) : OwnPg w' base v' (X ++ [x]) := by
  unfold OwnPg
  rw [List.length_append, List.flatMap_append]
  simpa using h


/-! ### How rows are made, what stores leave; the boxes of a call -/
theorem box2 {w : World} {x y : Value} {T : TypeId} {w1 : World} (hb : Below (w.alloc (.cells #[x, y] T)).heap.size (w.alloc (.cells #[x, y] T)) w1) :
    w1.cell? ⟨w.heap.size, 0, none⟩ = some x ∧ w1.cell? ⟨w.heap.size, 1, none⟩ = some y := by
  have hg : w1.heap[w.heap.size]? = some (.cells #[x, y] T (0, 0)) := (hb.block _ (by simp)).trans (heap_alloc_new w _)
  exact ⟨by rw [cell_of_row w1 _ _ _ _ _ hg]; rfl, by rw [cell_of_row w1 _ _ _ _ _ hg]; rfl⟩
theorem new2 (w : World) (x y : Value) (T : TypeId) : (w.alloc (.cells #[x, y] T)).drew.cell? ⟨w.heap.size, 0, none⟩ = some x ∧ (w.alloc (.cells #[x, y] T)).drew.cell? ⟨w.heap.size, 1, none⟩ = some y :=
  box2 (w1 := (w.alloc (.cells #[x, y] T)).drew) (Below.refl _ (w.alloc (.cells #[x, y] T))).drew
theorem drew_below {a b : World} (h : Below a.drew.heap.size a.drew b) : Below a.heap.size a b := ⟨h.os, h.tape, h.output, h.size, h.block⟩
theorem keep1 {W W' : World} {q : Addr} {v : Value} (hb : Below W.heap.size W W') (h : W.cell? q = some v) : W'.cell? q = some v := (hb.cell (World.block_lt_of_cell? W _ h)).trans h
theorem PgAt.drew {w : World} {a : Option Addr} {X : List En} (h : PgAt w a X) : PgAt w.drew a X := h.keep fun _ _ => rfl
theorem own_pg {w : World} {base : Nat} {a : Option Addr} {n c : Nat} {X : List En} (h : OwnPg w base (.slice a n c) X) : PgAt w a X := by
  obtain ⟨a', c', e, hp, _⟩ := h.at_
  have ea : a = a' := by injection e
  rw [ea]; exact hp
theorem own_cap {w : World} {base : Nat} {a : Option Addr} {n c : Nat} {X : List En} (h : OwnPg w base (.slice a n c) X) : X.length ≤ c ∧ c ≤ maxLen := by
  obtain ⟨a', c', e, _, _, h1, h2⟩ := h.at_
  have ec : c = c' := by injection e
  rw [ec]; exact ⟨h1, h2⟩
theorem own_len {w : World} {base : Nat} {a : Option Addr} {n c : Nat} {X : List En} (h : OwnPg w base (.slice a n c) X) : n = X.length := by
  obtain ⟨a', c', e, _⟩ := h.at_
  injection e


/-- A row in the making: the first k blocks lie there, the rest are empty. -/
def half (X : List En) (k : Nat) : List En := X.take k ++ List.replicate (X.length - k) En.zero
theorem half_len {X : List En} {k : Nat} (hk : k ≤ X.length) : (half X k).length = X.length := by
  unfold half; rw [List.length_append, List.length_take, List.length_replicate]; omega
theorem half_all (X : List En) : half X X.length = X := by unfold half; simp
theorem half_set {X : List En} {k : Nat} {x : En} (hx : X[k]? = some x) : (half X k).set k x = half X (k + 1) := by
  obtain ⟨g1, g2⟩ := List.getElem?_eq_some_iff.1 hx
  unfold half
  have l1 : (X.take k).length = k := by rw [List.length_take]; omega
  rw [List.set_append_right _ _ (by omega), l1, Nat.sub_self, show X.length - k = (X.length - (k + 1)) + 1 by omega, List.replicate_succ, List.set_cons_zero, List.take_succ_eq_append_getElem g1, g2]
  simp
theorem half_at {X : List En} {k : Nat} (hk : k < X.length) : (half X k)[k]? = some En.zero := by
  unfold half
  have l1 : (X.take k).length = k := by rw [List.length_take]; omega
  rw [List.getElem?_append_right (by omega), l1, Nat.sub_self, List.getElem?_replicate, if_pos (by omega)]
def z2 : Array Value := #[.int .i64 0, .string ⟨#[]⟩]
theorem made_half (n : Nat) : madeCells z2 (n * 2) = ((List.replicate n En.zero).flatMap sc).toArray := by
  apply Array.ext'
  apply List.ext_getElem?
  intro j
  unfold madeCells
  show _ = ((List.replicate n En.zero).flatMap sc)[j]?
  rw [Array.toList_map, Array.toList_range, List.getElem?_map]
  by_cases hj : j < n * 2
  · have hx : (List.replicate n En.zero)[j / 2]? = some En.zero := by rw [List.getElem?_replicate, if_pos (by omega)]
    rw [List.getElem?_range hj]
    rcases Nat.mod_two_eq_zero_or_one j with hm | hm
    · have e1 : j = j / 2 * 2 + 0 := by omega
      have e2 := flat_at (enc := sc) (c := 2) _ (fun x _ => sc_len x) (j / 2) _ hx 0 (.int .i64 0) rfl
      rw [← e1] at e2
      rw [e2]
      simp [z2, hm]
    · have e1 : j = j / 2 * 2 + 1 := by omega
      have e2 := flat_at (enc := sc) (c := 2) _ (fun x _ => sc_len x) (j / 2) _ hx 1 (.string ⟨#[]⟩) rfl
      rw [← e1] at e2
      rw [e2]
      simp [z2, hm]
  · rw [List.getElem?_eq_none (by simp; omega), List.getElem?_eq_none (by rw [pg_len, List.length_replicate]; omega)]
    rfl

theorem OwnPg.made (w : World) (X : List En) (hn : X.length ≤ maxLen) :
    OwnPg (w.alloc (.cells (madeCells z2 (X.length * 2)) 87)) w.heap.size (.slice (some ⟨w.heap.size, 0, none⟩) X.length X.length) (half X 0) := by
  have e : half X 0 = List.replicate X.length En.zero := by unfold half; simp
  rw [e, made_half]
  refine ⟨by rw [pg_len], .inr ⟨w.heap.size, X.length, _, by rw [List.length_replicate], Nat.le_refl _, heap_alloc_new w _, by rw [List.length_replicate]; exact Nat.le_refl _, hn, ?_, ?_⟩⟩
  · rw [List.size_toArray, pg_len, List.length_replicate]
  · rw [List.take_of_length_le (by rw [pg_len]; exact Nat.le_refl _)]
theorem OwnPg.fz {w : World} {base g n c : Nat} {X : List En} (h : OwnPg w base (.slice (some ⟨g, 0, none⟩) n c) X) (i : Nat) : w.frozen? ⟨g, i, none⟩ = false := by
  rcases h.2 with ⟨e, _⟩ | ⟨g', cap, cur, hv, hg, hh, r⟩
  · cases e
  · injection hv with e1 e2 e3
    have eg : g = g' := by injection e1 with e1; injection e1
    subst eg
    simp [World.frozen?, hh]
theorem OwnPg.cells {w : World} {base g n c : Nat} {X : List En} (h : OwnPg w base (.slice (some ⟨g, 0, none⟩) n c) X) {k : Nat} {x : En} (hx : X[k]? = some x) :
    w.cell? ⟨g, k * 2, none⟩ = some (.int .i64 x.k) ∧ w.cell? ⟨g, k * 2 + 1, none⟩ = some (.string x.t) := by
  obtain ⟨a, c', e, hp, _⟩ := h.at_
  obtain ⟨b, o, ea, d1, d2⟩ := hp k x hx
  rcases h.2 with ⟨e', _⟩ | ⟨g', cap, cur, hv, hg, hh, r⟩
  · cases e'
  · injection e with e1 _ _
    injection hv with e2 _ _
    rw [ea] at e1
    rw [e2] at e1
    injection e2 with e2
    injection e1 with e1
    injection e2 with e2 _ _
    injection e1 with e1 eo _
    subst e1; subst e2; subst eo
    rw [Nat.zero_add] at d1 d2
    exact ⟨d1, d2⟩
theorem OwnPg.ge {w : World} {base g n c : Nat} {X : List En} (h : OwnPg w base (.slice (some ⟨g, 0, none⟩) n c) X) : base ≤ g ∧ g < w.heap.size := h.lt g rfl
theorem OwnPg.keepAlloc {w : World} {base : Nat} {v : Value} {X : List En} (h : OwnPg w base v X) (o : Obj) : OwnPg (w.alloc o) base v X := h.below (bx _ _)
/-- The store of a block. -/
theorem OwnPg.put {w : World} {base g n c : Nat} {X : List En} (h : OwnPg w base (.slice (some ⟨g, 0, none⟩) n c) X) (k : Nat) (hk : k < X.length) (u : Int) (t : ByteArray) :
    OwnPg ((w.setCell ⟨g, k * 2, none⟩ (.int .i64 u)).setCell ⟨g, k * 2 + 1, none⟩ (.string t)) base (.slice (some ⟨g, 0, none⟩) n c) (X.set k ⟨u, t⟩) := h.set k hk ⟨u, t⟩
theorem Below.two {w w' : World} {B g : Nat} (h : Below B w w') (hg : B ≤ g) (i j : Nat) (u v : Value) : Below B w ((w'.setCell ⟨g, i, none⟩ u).setCell ⟨g, j, none⟩ v) :=
  (h.setCell (p := ⟨g, i, none⟩) hg _).setCell (p := ⟨g, j, none⟩) hg _

theorem OwnPg.spot {w : World} {base g n c : Nat} {X : List En} (h : OwnPg w base (.slice (some ⟨g, 0, none⟩) n c) X) {k : Nat} {x : En} (hx : X[k]? = some x) :
    w.cell? ⟨g, k * 2, none⟩ = some (.int .i64 x.k) ∧ w.cell? ⟨g, k * 2 + 1, none⟩ = some (.string x.t) ∧ w.frozen? ⟨g, k * 2, none⟩ = false ∧ w.frozen? ⟨g, k * 2 + 1, none⟩ = false :=
  ⟨(h.cells hx).1, (h.cells hx).2, h.fz _, h.fz _⟩
theorem spot_set {W : World} {g b i j : Nat} {x y u v : Value} (hne : g ≠ b) (h1 : W.cell? ⟨b, 0, none⟩ = some x) (h2 : W.cell? ⟨b, 1, none⟩ = some y) :
    ((W.setCell ⟨g, i, none⟩ u).setCell ⟨g, j, none⟩ v).cell? ⟨b, 0, none⟩ = some x ∧ ((W.setCell ⟨g, i, none⟩ u).setCell ⟨g, j, none⟩ v).cell? ⟨b, 1, none⟩ = some y := by
  have hb : ((W.setCell ⟨g, i, none⟩ u).setCell ⟨g, j, none⟩ v).heap[b]? = W.heap[b]? := by
    rw [Below.heap_setCell _ _ _ _ (fun e => hne e.symm), Below.heap_setCell _ _ _ _ (fun e => hne e.symm)]
  exact ⟨(World.cell?_of_block (a := ⟨b, 0, none⟩) hb).trans h1, (World.cell?_of_block (a := ⟨b, 1, none⟩) hb).trans h2⟩

theorem OwnPg.some {w : World} {base : Nat} {v : Value} {X : List En} (h : OwnPg w base v X) (hp : 0 < X.length) : ∃ g c, v = .slice (some ⟨g, 0, none⟩) X.length c ∧ X.length ≤ c := by
  rcases h.2 with ⟨_, h0⟩ | ⟨g, cap, cur, hv, _, _, h1, _⟩
  · omega
  · exact ⟨g, cap, hv, h1⟩

theorem pg_drop (X : List En) (k : Nat) : (X.drop k).flatMap sc = (X.flatMap sc).drop (k * 2) := by
  have h1 := pg_take X k
  have h2 : X.flatMap sc = (X.take k).flatMap sc ++ (X.drop k).flatMap sc := by rw [← List.flatMap_append, List.take_append_drop]
  by_cases hk : k ≤ X.length
  · rw [h2, List.drop_left' (by rw [pg_len, List.length_take]; omega)]
  · rw [List.drop_of_length_le (by omega), List.drop_of_length_le (by rw [pg_len]; omega)]; rfl
theorem PgAt.flat {w : World} {b o : Nat} {X : List En} (h : PgAt w (some ⟨b, o, none⟩) X) : ∀ j u, (X.flatMap sc)[j]? = some u → w.cell? ((⟨b, o, none⟩ : Addr).add j) = some u := by
  intro j u hj
  have hjl : j < X.length * 2 := by have := (List.getElem?_eq_some_iff.1 hj).1; rwa [pg_len] at this
  obtain ⟨y, hy⟩ : ∃ y, X[j / 2]? = some y := ⟨_, List.getElem?_eq_getElem (by omega)⟩
  obtain ⟨b', o', e, d1, d2⟩ := h _ _ hy
  cases e
  rw [Addr.add_mid]
  rcases Nat.mod_two_eq_zero_or_one j with hm | hm
  · have e1 : j = j / 2 * 2 + 0 := by omega
    have e2 := flat_at (enc := sc) (c := 2) X (fun x _ => sc_len x) (j / 2) y hy 0 (.int .i64 y.k) rfl
    rw [← e1, hj] at e2
    rw [e2, ← d1]
    congr 2
    omega
  · have e1 : j = j / 2 * 2 + 1 := by omega
    have e2 := flat_at (enc := sc) (c := 2) X (fun x _ => sc_len x) (j / 2) y hy 1 (.string y.t) rfl
    rw [← e1, hj] at e2
    rw [e2, ← d2]
    congr 2
    omega
theorem PgAt.drop {w : World} {b o : Nat} {X : List En} (h : PgAt w (some ⟨b, o, none⟩) X) (k : Nat) : PgAt w (some ⟨b, o + k * 2, none⟩) (X.drop k) := fun j x hj => by
  rw [List.getElem?_drop] at hj
  obtain ⟨b', o', e, h1, h2⟩ := h _ x hj
  cases e
  refine ⟨b, o + k * 2, rfl, ?_, ?_⟩
  · rw [← h1]; congr 2; omega
  · rw [← h2]; congr 2; omega
theorem own_block {w : World} {base g n c : Nat} {X : List En} (h : OwnPg w base (.slice (some ⟨g, 0, none⟩) n c) X) : ∃ cur : Array Value, w.heap[g]? = some (.cells cur 87 (0, 0)) ∧ cur.size = c * 2 ∧ n = X.length ∧ X.length ≤ c ∧ c ≤ maxLen ∧ base ≤ g ∧ cur.toList.take (X.length * 2) = X.flatMap sc := by
  rcases h.2 with ⟨e, _⟩ | ⟨g', cap, cur, hv, hg, hh, h1, h2, h3, h4⟩
  · cases e
  · injection hv with e1 e2 e3
    have eg : g = g' := by injection e1 with e1; injection e1
    subst eg; subst e2; subst e3
    exact ⟨cur, hh, h3, rfl, h1, h2, hg, h4⟩
/-- Blocks laid over a part of it, and behind it. -/
theorem own_lay {w : World} {base g n c : Nat} {X : List En} (h : OwnPg w base (.slice (some ⟨g, 0, none⟩) n c) X) (k : Nat) (Y : List En) (hk : k ≤ X.length) (hkY : k + Y.length ≤ c) :
    OwnPg (w.setCells g (k * 2) (Y.flatMap sc)) base (.slice (some ⟨g, 0, none⟩) (X.take k ++ Y ++ X.drop (k + Y.length)).length c) (X.take k ++ Y ++ X.drop (k + Y.length)) := by
  obtain ⟨cur, hh, h3, rfl, h1, h2, hg, h4⟩ := own_block h
  have hl := pg_len Y
  have hfit : k * 2 + (Y.flatMap sc).length ≤ cur.size := by omega
  have hc : cur.toList.length = c * 2 := by rw [Array.length_toList, h3]
  rw [setCells_eq_setRow Try.prog w g (k * 2) cur _ (Y.flatMap sc) hh hfit (pg_one Y)]
  refine ⟨by rw [pg_len], .inr ⟨g, c, _, rfl, hg, setRow_heap w g cur _ _ _ hh, ?_, h2, ?_, ?_⟩⟩
  · simp; omega
  · rw [List.size_toArray, List.length_append, List.length_append, List.length_take, List.length_drop, hc]
    omega
  · rw [List.flatMap_append, List.flatMap_append, pg_take, pg_drop, ← h4, List.take_take, Nat.min_eq_left (by omega), List.drop_take]
    have e1 : (X.take k ++ Y ++ X.drop (k + Y.length)).length = k + Y.length + (X.length - (k + Y.length)) := by simp; omega
    rw [e1]
    show List.take _ (List.take (k * 2) cur.toList ++ Y.flatMap sc ++ List.drop (k * 2 + (Y.flatMap sc).length) cur.toList) = _
    have e2 : (List.take (k * 2) cur.toList ++ Y.flatMap sc).length = (k + Y.length) * 2 := by rw [List.length_append, List.length_take, hl, hc]; omega
    rw [List.take_append, e2, List.take_of_length_le (by rw [e2]; omega), hl]
    congr 2
    · omega
    · congr 1; omega
theorem zero_cells (k : Nat) : Builtin.zeroCells (Value.agg #[.int .i64 0, .string ⟨#[]⟩]).cells k = ((List.replicate k En.zero).flatMap sc).toArray := by
  rw [← made_half]
  rfl
theorem slice_from (W : World) (g n c k : Nat) (hk : k ≤ n) : (Instr.slice 74 (.slice (some ⟨g, 0, none⟩) n c) (some (.int .i64 (k : Int))) none none).run Try.prog W = .ok (.slice (if c = k then some ⟨g, 0, none⟩ else some ⟨g, k * 2, none⟩) (n - k) (c - k)) W := by
  have u := Try.underlying74
  have z := Try.sizeOf87
  go_simp
theorem run_copy_pg {w : World} {base g n c : Nat} {X : List En} (h : OwnPg w base (.slice (some ⟨g, 0, none⟩) n c) X) (ty : TypeId) (k dLen dCap : Nat) (a : Addr) (sLen sCap : Nat) (Y : List En) (hY : Y.length = Nat.min sLen dLen) (hk : k + Y.length ≤ c)
    (hs : ∀ j u, (Y.flatMap sc)[j]? = some u → w.cell? (a.add j) = some u) :
    (Builtin.copy_ #[74, 74] ty #[.slice (some ⟨g, k * 2, none⟩) dLen dCap, .slice (some a) sLen sCap]).run Try.prog w = .ok (goInt Y.length) (w.setCells g (k * 2) (Y.flatMap sc)) := by
  obtain ⟨cur, hh, h3, rfl, h1, h2, hg, h4⟩ := own_block h
  obtain ⟨i0, hi, hz0, hz1, hz2⟩ := info_parts block_info
  have hl := run_loadCells_list (P := Try.prog) w a (Y.flatMap sc) hs
  have hst := run_storeCells_cells (P := Try.prog) g (k * 2) (Y.flatMap sc) 0 w (fun j hj => by rw [pg_len] at hj; rw [cell_of_row w g _ cur _ _ hh]; simp; omega) (fun j _ => by simp [World.frozen?, hh]) (pg_one Y)
  have hn : (Y.flatMap sc).length = Y.length * 2 := pg_len Y
  rw [hn] at hl
  simp [Builtin.copy_, run_underlying Try.underlying74, Builtin.lenOf, Builtin.firstCells, sizeOf, typeInfo, hi, hz1, ← hY, hl, hst]


end TE
end Go.Proofs.Ytlefcjgemojhpab.PTree
