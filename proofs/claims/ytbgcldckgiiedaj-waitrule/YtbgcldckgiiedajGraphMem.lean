/- Lists of edges in memory: how a slice of edges lies, wherever it lies, and in a row of one's own; how such a row is made, what a store and an append leave; the boxes of a call. -/
import Derived.Test.YtbgcldckgiiedajPoolMem
import Derived.Test.YtbgcldckgiiedajGraphNum
import Derived.Test.YtbgcldckgiiedajChecked
import Derived.Deep.RegionHeld3
namespace Go.Proofs.Ytbgcldckgiiedaj.PGraph
open Go Go.RowKit PPool
set_option maxRecDepth 100000

def Gr.zero' : Gr.Ed := ⟨0, 0⟩

/-- An edge's two cells. -/
def sc (x : Gr.Ed) : List Value := [.int .i64 x.f, .int .i64 x.t]
theorem sc_len (x : Gr.Ed) : (sc x).length = 2 := rfl
theorem sc_one (x : Gr.Ed) : ∀ v ∈ sc x, v.oneCell' = true := by
  intro v hv
  simp only [sc, List.mem_cons, List.not_mem_nil, or_false] at hv
  rcases hv with rfl | rfl <;> rfl
theorem pg_one (X : List Gr.Ed) : ∀ v ∈ X.flatMap sc, v.oneCell' = true := by
  intro v hv
  obtain ⟨x, _, h⟩ := List.mem_flatMap.1 hv
  exact sc_one x v h
theorem pg_len (X : List Gr.Ed) : (X.flatMap sc).length = X.length * 2 := flat_len X fun x _ => sc_len x

theorem pg_take : ∀ (X : List Gr.Ed) (k : Nat), (X.take k).flatMap sc = (X.flatMap sc).take (k * 2)
  | [], k => by simp
  | x :: X, 0 => by simp
  | x :: X, k + 1 => by
    rw [List.take_succ_cons, List.flatMap_cons, List.flatMap_cons, pg_take X k, show (k + 1) * 2 = (sc x).length + k * 2 by rw [sc_len]; omega, List.take_length_add_append]

/-- A slice of edges: its cells lie where it says. -/
def PgAt (w : World) (a : Option Addr) (X : List Gr.Ed) : Prop := ∀ (j : Nat) (x : Gr.Ed), X[j]? = some x →
  ∃ b o, a = some ⟨b, o, none⟩ ∧ w.cell? ⟨b, o + j * 2, none⟩ = some (.int .i64 x.f) ∧ w.cell? ⟨b, o + j * 2 + 1, none⟩ = some (.int .i64 x.t)
theorem PgAt.nil (w : World) (a : Option Addr) : PgAt w a [] := fun j x h => by simp at h
theorem PgAt.below {w w' : World} {a : Option Addr} {X : List Gr.Ed} (h : PgAt w a X) (hb : Below w.heap.size w w') : PgAt w' a X := fun j x hj => by
  obtain ⟨b, o, e, h1, h2⟩ := h j x hj
  exact ⟨b, o, e, (hb.cell (p := ⟨b, o + j * 2, none⟩) (World.block_lt_of_cell? w _ h1)).trans h1, (hb.cell (p := ⟨b, o + j * 2 + 1, none⟩) (World.block_lt_of_cell? w _ h2)).trans h2⟩
theorem PgAt.keep {w w' : World} {a : Option Addr} {X : List Gr.Ed} (h : PgAt w a X) (hb : ∀ q, a = some q → w'.heap[q.block]? = w.heap[q.block]?) : PgAt w' a X := fun j x hj => by
  obtain ⟨b, o, e, h1, h2⟩ := h j x hj
  have := hb _ e
  exact ⟨b, o, e, (World.cell?_of_block (a := ⟨b, o + j * 2, none⟩) this).trans h1, (World.cell?_of_block (a := ⟨b, o + j * 2 + 1, none⟩) this).trans h2⟩
theorem PgAt.take {w : World} {a : Option Addr} {X : List Gr.Ed} (h : PgAt w a X) (k : Nat) : PgAt w a (X.take k) := fun j x hj => by
  rw [List.getElem?_take] at hj
  split at hj
  · exact h j x hj
  · cases hj

theorem edge_info : (Try.prog.info? 48).map (fun i => (i.zero, i.size, i.bytes)) = some (some (.agg #[.int .i64 0, .int .i64 0]), 2, 16) := by kernel_rfl

/-- A row of edges of one's own. -/
def OwnPg (w : World) (base : Nat) (v : Value) (X : List Gr.Ed) : Prop := w.ownsRow base 48 2 v X.length (X.flatMap sc)
theorem OwnPg.nil (w : World) (base : Nat) : OwnPg w base (.slice none 0 0) [] := World.ownsRow_nil _ _ _ _
theorem OwnPg.keep {w w' : World} {base : Nat} {v : Value} {X : List Gr.Ed} (h : OwnPg w base v X) (hb : ∀ g, v.ownBlock = some g → w'.heap[g]? = w.heap[g]?) : OwnPg w' base v X := ownsRow_of_block h hb
theorem OwnPg.below {w w' : World} {base : Nat} {v : Value} {X : List Gr.Ed} (h : OwnPg w base v X) (hb : Below w.heap.size w w') : OwnPg w' base v X :=
  h.keep fun g hg => hb.block g (h.lt g hg).2
theorem OwnPg.at_ {w : World} {base : Nat} {v : Value} {X : List Gr.Ed} (h : OwnPg w base v X) : ∃ a c, v = .slice a X.length c ∧ PgAt w a X ∧ (∀ q, a = some q → base ≤ q.block) ∧ X.length ≤ c ∧ c ≤ maxLen := by
  rcases h.2 with ⟨rfl, h0⟩ | ⟨g, cap, cur, hv, hb, hg, h1, h2, h3, h4⟩
  · have : X = [] := List.eq_nil_of_length_eq_zero h0
    subst this
    exact ⟨none, 0, rfl, PgAt.nil _ _, (fun q hq => by cases hq), Nat.le_refl _, Nat.zero_le _⟩
  · refine ⟨_, cap, hv, fun j x hj => ⟨g, 0, rfl, ?_, ?_⟩, fun q hq => ?_, h1, h2⟩
    · have e := flat_at (enc := sc) (c := 2) X (fun x _ => sc_len x) j x hj 0 (.int .i64 x.f) rfl
      rw [← h4, List.getElem?_take] at e
      split at e
      · rw [cell_of_row w g _ cur _ _ hg, Nat.zero_add]
        simpa using e
      · cases e
    · have e := flat_at (enc := sc) (c := 2) X (fun x _ => sc_len x) j x hj 1 (.int .i64 x.t) rfl
      rw [← h4, List.getElem?_take] at e
      split at e
      · rw [cell_of_row w g _ cur _ _ hg, Nat.zero_add]
        simpa using e
      · cases e
    · cases hq; exact hb
theorem OwnPg.lower {w : World} {base base' : Nat} {v : Value} {X : List Gr.Ed} (h : OwnPg w base v X) (hb : base' ≤ base) : OwnPg w base' v X := by
  refine ⟨h.1, ?_⟩
  rcases h.2 with e | ⟨g, cap, cur, hv, hg, r⟩
  · exact .inl e
  · exact .inr ⟨g, cap, cur, hv, Nat.le_trans hb hg, r⟩
/-- A beginning of it. -/
theorem OwnPg.cut {w : World} {base : Nat} {a : Option Addr} {n c : Nat} {X : List Gr.Ed} (h : OwnPg w base (.slice a n c) X) (k : Nat) (hk : k ≤ X.length) (hp : 0 < X.length) : OwnPg w base (.slice a k c) (X.take k) := by
  refine ⟨by rw [pg_len], ?_⟩
  rcases h.2 with ⟨_, h0⟩ | ⟨g, cap, cur, hv, hg, hh, h1, h2, h3, h4⟩
  · omega
  · injection hv with e1 e2 e3
    subst e1; subst e3
    refine .inr ⟨g, c, cur, by rw [List.length_take, Nat.min_eq_left hk], hg, hh, by rw [List.length_take]; omega, h2, h3, ?_⟩
    have e := pg_take X k
    rw [e, ← h4, List.take_take, List.length_take]
    congr 1
    omega
/-- An edge laid over another one. -/
theorem OwnPg.set {w : World} {base g n c : Nat} {X : List Gr.Ed} (h : OwnPg w base (.slice (some ⟨g, 0, none⟩) n c) X) (k : Nat) (hk : k < X.length) (x : Gr.Ed) :
    OwnPg (w.setCells g (k * 2) (sc x)) base (.slice (some ⟨g, 0, none⟩) n c) (X.set k x) := by
  rcases h.2 with ⟨e, _⟩ | ⟨g', cap, cur, hv, hg, hh, h1, h2, h3, h4⟩
  · cases e
  · injection hv with e1 e2 e3
    have eg : g = g' := by injection e1 with e1; injection e1
    subst eg; subst e2; subst e3
    have hfit : k * 2 + (sc x).length ≤ cur.size := by rw [sc_len, h3]; omega
    rw [setCells_eq_setRow Try.prog w g (k * 2) cur _ (sc x) hh hfit (sc_one x)]
    refine ⟨by rw [pg_len], .inr ⟨g, c, _, by rw [List.length_set], hg, setRow_heap w g cur _ _ _ hh, by rw [List.length_set]; exact h1, h2, ?_, ?_⟩⟩
    · rw [List.size_toArray, List.length_append, List.length_append, List.length_take, List.length_drop, Array.length_toList]
      omega
    · have e := flat_set (enc := sc) (c := 2) X (fun x _ => sc_len x) k x hk (sc_len x)
      rw [e, ← h4, List.length_set]
      have l0 : cur.toList.length = c * 2 := by rw [Array.length_toList, h3]
      have s2 : (sc x).length = 2 := rfl
      show List.take _ (List.take (k * 2) cur.toList ++ sc x ++ List.drop (k * 2 + (sc x).length) cur.toList) = _
      rw [s2, List.take_take, Nat.min_eq_left (by omega), List.take_append, List.take_of_length_le (by rw [List.length_append, List.length_take, s2]; omega), List.drop_take]
      congr 2
      rw [List.length_append, List.length_take, s2]
      omega
theorem OwnPg.grows {w' : World} {base : Nat} {v' : Value} {X : List Gr.Ed} {x : Gr.Ed} (h : w'.ownsRow base 48 2 v' (X.length + 1) (X.flatMap sc ++ sc x)) : OwnPg w' base v' (X ++ [x]) := by
  unfold OwnPg
  rw [List.length_append, List.flatMap_append]
  simpa using h


/-! ### How rows are made, what stores leave; the boxes of a call -/
theorem box2 {w : World} {x y : Value} {T : TypeId} {w1 : World} (hb : Below (w.alloc (.cells #[x, y] T)).heap.size (w.alloc (.cells #[x, y] T)) w1) :
    w1.cell? ⟨w.heap.size, 0, none⟩ = some x ∧ w1.cell? ⟨w.heap.size, 1, none⟩ = some y := by
  have hg : w1.heap[w.heap.size]? = some (.cells #[x, y] T (0, 0)) := (hb.block _ (by simp)).trans (heap_alloc_new w _)
  exact ⟨by rw [cell_of_row w1 _ _ _ _ _ hg]; rfl, by rw [cell_of_row w1 _ _ _ _ _ hg]; rfl⟩
theorem new2 (w : World) (x y : Value) (T : TypeId) : (w.alloc (.cells #[x, y] T)).drew.cell? ⟨w.heap.size, 0, none⟩ = some x ∧ (w.alloc (.cells #[x, y] T)).drew.cell? ⟨w.heap.size, 1, none⟩ = some y :=
  box2 (w1 := (w.alloc (.cells #[x, y] T)).drew) (Below.refl _ (w.alloc (.cells #[x, y] T))).drew
theorem drew_below {a b : World} (h : Below a.drew.heap.size a.drew b) : Below a.heap.size a b := ⟨h.os, h.tape, h.output, h.size, h.block⟩
theorem keep1 {W W' : World} {q : Addr} {v : Value} (hb : Below W.heap.size W W') (h : W.cell? q = some v) : W'.cell? q = some v := (hb.cell (World.block_lt_of_cell? W _ h)).trans h
theorem PgAt.drew {w : World} {a : Option Addr} {X : List Gr.Ed} (h : PgAt w a X) : PgAt w.drew a X := h.keep fun _ _ => rfl
theorem own_pg {w : World} {base : Nat} {a : Option Addr} {n c : Nat} {X : List Gr.Ed} (h : OwnPg w base (.slice a n c) X) : PgAt w a X := by
  obtain ⟨a', c', e, hp, _⟩ := h.at_
  have ea : a = a' := by injection e
  rw [ea]; exact hp
theorem own_cap {w : World} {base : Nat} {a : Option Addr} {n c : Nat} {X : List Gr.Ed} (h : OwnPg w base (.slice a n c) X) : X.length ≤ c ∧ c ≤ maxLen := by
  obtain ⟨a', c', e, _, _, h1, h2⟩ := h.at_
  have ec : c = c' := by injection e
  rw [ec]; exact ⟨h1, h2⟩
theorem own_len {w : World} {base : Nat} {a : Option Addr} {n c : Nat} {X : List Gr.Ed} (h : OwnPg w base (.slice a n c) X) : n = X.length := by
  obtain ⟨a', c', e, _⟩ := h.at_
  injection e


/-- A row in the making: the first k blocks lie there, the rest are empty. -/
def half (X : List Gr.Ed) (k : Nat) : List Gr.Ed := X.take k ++ List.replicate (X.length - k) Gr.zero'
theorem half_len {X : List Gr.Ed} {k : Nat} (hk : k ≤ X.length) : (half X k).length = X.length := by
  unfold half; rw [List.length_append, List.length_take, List.length_replicate]; omega
theorem half_all (X : List Gr.Ed) : half X X.length = X := by unfold half; simp
theorem half_set {X : List Gr.Ed} {k : Nat} {x : Gr.Ed} (hx : X[k]? = some x) : (half X k).set k x = half X (k + 1) := by
  obtain ⟨g1, g2⟩ := List.getElem?_eq_some_iff.1 hx
  unfold half
  have l1 : (X.take k).length = k := by rw [List.length_take]; omega
  rw [List.set_append_right _ _ (by omega), l1, Nat.sub_self, show X.length - k = (X.length - (k + 1)) + 1 by omega, List.replicate_succ, List.set_cons_zero, List.take_succ_eq_append_getElem g1, g2]
  simp
theorem half_at {X : List Gr.Ed} {k : Nat} (hk : k < X.length) : (half X k)[k]? = some Gr.zero' := by
  unfold half
  have l1 : (X.take k).length = k := by rw [List.length_take]; omega
  rw [List.getElem?_append_right (by omega), l1, Nat.sub_self, List.getElem?_replicate, if_pos (by omega)]
def z2 : Array Value := #[.int .i64 0, .int .i64 0]
theorem made_half (n : Nat) : madeCells z2 (n * 2) = ((List.replicate n Gr.zero').flatMap sc).toArray := by
  apply Array.ext'
  apply List.ext_getElem?
  intro j
  unfold madeCells
  show _ = ((List.replicate n Gr.zero').flatMap sc)[j]?
  rw [Array.toList_map, Array.toList_range, List.getElem?_map]
  by_cases hj : j < n * 2
  · have hx : (List.replicate n Gr.zero')[j / 2]? = some Gr.zero' := by rw [List.getElem?_replicate, if_pos (by omega)]
    rw [List.getElem?_range hj]
    rcases Nat.mod_two_eq_zero_or_one j with hm | hm
    · have e1 : j = j / 2 * 2 + 0 := by omega
      have e2 := flat_at (enc := sc) (c := 2) _ (fun x _ => sc_len x) (j / 2) _ hx 0 (.int .i64 0) rfl
      rw [← e1] at e2
      rw [e2]
      simp [z2, hm]
    · have e1 : j = j / 2 * 2 + 1 := by omega
      have e2 := flat_at (enc := sc) (c := 2) _ (fun x _ => sc_len x) (j / 2) _ hx 1 (.int .i64 0) rfl
      rw [← e1] at e2
      rw [e2]
      simp [z2, hm]
  · rw [List.getElem?_eq_none (by simp; omega), List.getElem?_eq_none (by rw [pg_len, List.length_replicate]; omega)]
    rfl

theorem OwnPg.made (w : World) (X : List Gr.Ed) (hn : X.length ≤ maxLen) :
    OwnPg (w.alloc (.cells (madeCells z2 (X.length * 2)) 48)) w.heap.size (.slice (some ⟨w.heap.size, 0, none⟩) X.length X.length) (half X 0) := by
  have e : half X 0 = List.replicate X.length Gr.zero' := by unfold half; simp
  rw [e, made_half]
  refine ⟨by rw [pg_len], .inr ⟨w.heap.size, X.length, _, by rw [List.length_replicate], Nat.le_refl _, heap_alloc_new w _, by rw [List.length_replicate]; exact Nat.le_refl _, hn, ?_, ?_⟩⟩
  · rw [List.size_toArray, pg_len, List.length_replicate]
  · rw [List.take_of_length_le (by rw [pg_len]; exact Nat.le_refl _)]
theorem OwnPg.fz {w : World} {base g n c : Nat} {X : List Gr.Ed} (h : OwnPg w base (.slice (some ⟨g, 0, none⟩) n c) X) (i : Nat) : w.frozen? ⟨g, i, none⟩ = false := by
  rcases h.2 with ⟨e, _⟩ | ⟨g', cap, cur, hv, hg, hh, r⟩
  · cases e
  · injection hv with e1 e2 e3
    have eg : g = g' := by injection e1 with e1; injection e1
    subst eg
    simp [World.frozen?, hh]
theorem OwnPg.cells {w : World} {base g n c : Nat} {X : List Gr.Ed} (h : OwnPg w base (.slice (some ⟨g, 0, none⟩) n c) X) {k : Nat} {x : Gr.Ed} (hx : X[k]? = some x) :
    w.cell? ⟨g, k * 2, none⟩ = some (.int .i64 x.f) ∧ w.cell? ⟨g, k * 2 + 1, none⟩ = some (.int .i64 x.t) := by
  obtain ⟨a, c', e, hp, _⟩ := h.at_
  obtain ⟨b, o, ea, d1, d2⟩ := hp k x hx
  rcases h.2 with ⟨e', _⟩ | ⟨g', cap, cur, hv, hg, hh, r⟩
  · cases e'
  · injection e with e1 _ _
    injection hv with e2 _ _
    rw [ea] at e1
    rw [e2] at e1
    injection e2 with e2
    injection e1 with e1
    injection e2 with e2 _ _
    injection e1 with e1 eo _
    subst e1; subst e2; subst eo
    rw [Nat.zero_add] at d1 d2
    exact ⟨d1, d2⟩
theorem OwnPg.ge {w : World} {base g n c : Nat} {X : List Gr.Ed} (h : OwnPg w base (.slice (some ⟨g, 0, none⟩) n c) X) : base ≤ g ∧ g < w.heap.size := h.lt g rfl
theorem OwnPg.keepAlloc {w : World} {base : Nat} {v : Value} {X : List Gr.Ed} (h : OwnPg w base v X) (o : Obj) : OwnPg (w.alloc o) base v X := h.below (bx _ _)
/-- The store of an edge. -/
theorem OwnPg.put {w : World} {base g n c : Nat} {X : List Gr.Ed} (h : OwnPg w base (.slice (some ⟨g, 0, none⟩) n c) X) (k : Nat) (hk : k < X.length) (u t : Int) :
    OwnPg ((w.setCell ⟨g, k * 2, none⟩ (.int .i64 u)).setCell ⟨g, k * 2 + 1, none⟩ (.int .i64 t)) base (.slice (some ⟨g, 0, none⟩) n c) (X.set k ⟨u, t⟩) := h.set k hk ⟨u, t⟩
theorem Below.two {w w' : World} {B g : Nat} (h : Below B w w') (hg : B ≤ g) (i j : Nat) (u v : Value) : Below B w ((w'.setCell ⟨g, i, none⟩ u).setCell ⟨g, j, none⟩ v) :=
  (h.setCell (p := ⟨g, i, none⟩) hg _).setCell (p := ⟨g, j, none⟩) hg _

theorem OwnPg.spot {w : World} {base g n c : Nat} {X : List Gr.Ed} (h : OwnPg w base (.slice (some ⟨g, 0, none⟩) n c) X) {k : Nat} {x : Gr.Ed} (hx : X[k]? = some x) :
    w.cell? ⟨g, k * 2, none⟩ = some (.int .i64 x.f) ∧ w.cell? ⟨g, k * 2 + 1, none⟩ = some (.int .i64 x.t) ∧ w.frozen? ⟨g, k * 2, none⟩ = false ∧ w.frozen? ⟨g, k * 2 + 1, none⟩ = false :=
  ⟨(h.cells hx).1, (h.cells hx).2, h.fz _, h.fz _⟩
theorem spot_set {W : World} {g b i j : Nat} {x y u v : Value} (hne : g ≠ b) (h1 : W.cell? ⟨b, 0, none⟩ = some x) (h2 : W.cell? ⟨b, 1, none⟩ = some y) :
    ((W.setCell ⟨g, i, none⟩ u).setCell ⟨g, j, none⟩ v).cell? ⟨b, 0, none⟩ = some x ∧ ((W.setCell ⟨g, i, none⟩ u).setCell ⟨g, j, none⟩ v).cell? ⟨b, 1, none⟩ = some y := by
  have hb : ((W.setCell ⟨g, i, none⟩ u).setCell ⟨g, j, none⟩ v).heap[b]? = W.heap[b]? := by
    rw [Below.heap_setCell _ _ _ _ (fun e => hne e.symm), Below.heap_setCell _ _ _ _ (fun e => hne e.symm)]
  exact ⟨(World.cell?_of_block (a := ⟨b, 0, none⟩) hb).trans h1, (World.cell?_of_block (a := ⟨b, 1, none⟩) hb).trans h2⟩

/-- Two boxes ahead of all that a call does. -/
structure Bxs (w w0 : World) (x y : Value) : Prop where
  size : w0.heap.size = w.heap.size + 2
  below : Below w.heap.size w w0
  b0 : ∃ T, w0.heap[w.heap.size]? = some (.cells #[x] T (0, 0))
  b1 : ∃ T, w0.heap[w.heap.size + 1]? = some (.cells #[y] T (0, 0))
theorem Bxs.mk' (w : World) (x y : Value) (T T' : TypeId) : Bxs w ((w.alloc (.cells #[x] T)).alloc (.cells #[y] T')) x y := by
  refine ⟨by simp, below_tr (bx _ _) (bx _ _), ⟨T, ?_⟩, ⟨T', ?_⟩⟩
  · exact (Below.heap_alloc (w.alloc (.cells #[x] T)) _ _ (by simp)).trans (heap_alloc_new w _)
  · have := heap_alloc_new (w.alloc (.cells #[x] T)) (.cells #[y] T')
    simpa using this
theorem Bxs.c0 {w w0 w1 : World} {x y : Value} (h : Bxs w w0 x y) (hb : Below w0.heap.size w0 w1) : w1.cell? ⟨w.heap.size, 0, none⟩ = some x := by
  obtain ⟨T, h0⟩ := h.b0
  have hg := (hb.block _ (by have := h.size; omega)).trans h0
  rw [cell_of_row w1 _ _ _ _ _ hg]; rfl
theorem Bxs.c1 {w w0 w1 : World} {x y : Value} (h : Bxs w w0 x y) (hb : Below w0.heap.size w0 w1) : w1.cell? ⟨w.heap.size + 1, 0, none⟩ = some y := by
  obtain ⟨T, h0⟩ := h.b1
  have hg := (hb.block _ (by have := h.size; omega)).trans h0
  rw [cell_of_row w1 _ _ _ _ _ hg]; rfl
theorem Bxs.fz {w w0 w1 : World} {x y : Value} (h : Bxs w w0 x y) (hb : Below w0.heap.size w0 w1) : w1.frozen? ⟨w.heap.size + 1, 0, none⟩ = false := by
  obtain ⟨T, h0⟩ := h.b1
  have hg := (hb.block _ (by have := h.size; omega)).trans h0
  simp [World.frozen?, hg]
theorem Bxs.out {w w0 w1 : World} {x y : Value} (h : Bxs w w0 x y) (hb : Below w0.heap.size w0 w1) (v : Value) : (w1.setCell ⟨w.heap.size + 1, 0, none⟩ v).cell? ⟨w.heap.size + 1, 0, none⟩ = some v := by
  obtain ⟨T, h0⟩ := h.b1
  have hg := (hb.block _ (by have := h.size; omega)).trans h0
  rw [setCell_eq_setRow w1 _ 0 _ T _ v hg]
  have := setRow_heap w1 _ #[y] (#[y].setIfInBounds 0 v) T _ hg
  rw [cell_of_row _ _ _ _ _ _ this]; rfl
theorem Bxs.end_ {w w0 w1 : World} {x y : Value} (h : Bxs w w0 x y) (hb : Below w0.heap.size w0 w1) (v : Value) : Below w.heap.size w (w1.setCell ⟨w.heap.size + 1, 0, none⟩ v) :=
  (h.below.trans (hb.mono (by have := h.size; omega))).setCell (p := ⟨w.heap.size + 1, 0, none⟩) (by show _ ≤ w.heap.size + 1; omega) _
/-- A row of one's own behind the boxes, when the answer is laid into its box. -/
theorem Bxs.own {w w0 w1 : World} {x y v u : Value} {X : List Gr.Ed} (h : Bxs w w0 x y) (ho : OwnPg w1 w0.heap.size v X) : OwnPg (w1.setCell ⟨w.heap.size + 1, 0, none⟩ u) w.heap.size v X := by
  have h1 := ho.lower (base' := w.heap.size) (by have := h.size; omega)
  refine h1.keep fun g hg => Below.heap_setCell _ _ _ _ (fun e => ?_)
  have := (ho.lt g hg).1
  have := h.size
  have e' : g = w.heap.size + 1 := e
  omega
theorem OwnPg.some {w : World} {base : Nat} {v : Value} {X : List Gr.Ed} (h : OwnPg w base v X) (hp : 0 < X.length) : ∃ g c, v = .slice (some ⟨g, 0, none⟩) X.length c ∧ X.length ≤ c := by
  rcases h.2 with ⟨_, h0⟩ | ⟨g, cap, cur, hv, _, _, h1, _⟩
  · omega
  · exact ⟨g, cap, hv, h1⟩
end Go.Proofs.Ytbgcldckgiiedaj.PGraph
