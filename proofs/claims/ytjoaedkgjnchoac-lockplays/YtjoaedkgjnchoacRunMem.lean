/- Lists of operations in memory: how a slice of operations lies, wherever it lies, and in a row of one's own; what a store and an append leave; arrays of twelve, and of twelve times twelve, as one value. -/
import Derived.Test.YtjoaedkgjnchoacGraphMem
import Derived.Test.YtjoaedkgjnchoacRunNum
import Derived.Deep.WholeRow
import Derived.Deep.MidRow
namespace Go.Proofs.Ytjoaedkgjnchoac.PRun
open Go Go.RowKit PPool PGraph
set_option maxRecDepth 100000

/-- An operation's three cells. -/
def so (x : Rn.Op) : List Value := [.int .i64 x.x, .int .i64 x.k, .int .i64 x.i]
theorem so_len (x : Rn.Op) : (so x).length = 3 := rfl
theorem so_one (x : Rn.Op) : ∀ v ∈ so x, v.oneCell' = true := by
  intro v hv
  simp only [so, List.mem_cons, List.not_mem_nil, or_false] at hv
  rcases hv with rfl | rfl | rfl <;> rfl
theorem op_one (X : List Rn.Op) : ∀ v ∈ X.flatMap so, v.oneCell' = true := by
  intro v hv
  obtain ⟨x, _, h⟩ := List.mem_flatMap.1 hv
  exact so_one x v h
theorem op_len (X : List Rn.Op) : (X.flatMap so).length = X.length * 3 := flat_len X fun x _ => so_len x
theorem op_take : ∀ (X : List Rn.Op) (k : Nat), (X.take k).flatMap so = (X.flatMap so).take (k * 3)
  | [], k => by simp
  | x :: X, 0 => by simp
  | x :: X, k + 1 => by
    rw [List.take_succ_cons, List.flatMap_cons, List.flatMap_cons, op_take X k, show (k + 1) * 3 = (so x).length + k * 3 by rw [so_len]; omega, List.take_length_add_append]

/-- A slice of operations: its cells lie where it says. -/
def OpAt (w : World) (a : Option Addr) (X : List Rn.Op) : Prop := ∀ (j : Nat) (x : Rn.Op), X[j]? = some x →
  ∃ b o, a = some ⟨b, o, none⟩ ∧ w.cell? ⟨b, o + j * 3, none⟩ = some (.int .i64 x.x) ∧ w.cell? ⟨b, o + j * 3 + 1, none⟩ = some (.int .i64 x.k) ∧ w.cell? ⟨b, o + j * 3 + 2, none⟩ = some (.int .i64 x.i)
theorem OpAt.nil (w : World) (a : Option Addr) : OpAt w a [] := fun j x h => by simp at h
theorem OpAt.below {w w' : World} {a : Option Addr} {X : List Rn.Op} (h : OpAt w a X) (hb : Below w.heap.size w w') : OpAt w' a X := fun j x hj => by
  obtain ⟨b, o, e, h1, h2, h3⟩ := h j x hj
  exact ⟨b, o, e, keep1 hb h1, keep1 hb h2, keep1 hb h3⟩
theorem OpAt.keep {w w' : World} {a : Option Addr} {X : List Rn.Op} (h : OpAt w a X) (hb : ∀ q, a = some q → w'.heap[q.block]? = w.heap[q.block]?) : OpAt w' a X := fun j x hj => by
  obtain ⟨b, o, e, h1, h2, h3⟩ := h j x hj
  have := hb _ e
  exact ⟨b, o, e, (World.cell?_of_block (a := ⟨b, o + j * 3, none⟩) this).trans h1, (World.cell?_of_block (a := ⟨b, o + j * 3 + 1, none⟩) this).trans h2, (World.cell?_of_block (a := ⟨b, o + j * 3 + 2, none⟩) this).trans h3⟩
theorem OpAt.drew {w : World} {a : Option Addr} {X : List Rn.Op} (h : OpAt w a X) : OpAt w.drew a X := h.keep fun _ _ => rfl
theorem OpAt.take {w : World} {a : Option Addr} {X : List Rn.Op} (h : OpAt w a X) (k : Nat) : OpAt w a (X.take k) := fun j x hj => by
  rw [List.getElem?_take] at hj
  split at hj
  · exact h j x hj
  · cases hj
/-- Below a bound that all its cells lie under. -/
theorem OpAt.lt {w : World} {a : Option Addr} {X : List Rn.Op} (h : OpAt w a X) (hp : 0 < X.length) : ∃ b o, a = some ⟨b, o, none⟩ ∧ b < w.heap.size := by
  obtain ⟨b, o, e, h1, _⟩ := h 0 _ (List.getElem?_eq_getElem hp)
  exact ⟨b, o, e, World.block_lt_of_cell? w _ h1⟩

/-- A row of operations of one's own. -/
def OwnOp (w : World) (base : Nat) (v : Value) (X : List Rn.Op) : Prop := w.ownsRow base 51 3 v X.length (X.flatMap so)
theorem OwnOp.nil (w : World) (base : Nat) : OwnOp w base (.slice none 0 0) [] := World.ownsRow_nil _ _ _ _
theorem OwnOp.keep {w w' : World} {base : Nat} {v : Value} {X : List Rn.Op} (h : OwnOp w base v X) (hb : ∀ g, v.ownBlock = some g → w'.heap[g]? = w.heap[g]?) : OwnOp w' base v X := ownsRow_of_block h hb
theorem OwnOp.below {w w' : World} {base : Nat} {v : Value} {X : List Rn.Op} (h : OwnOp w base v X) (hb : Below w.heap.size w w') : OwnOp w' base v X :=
  h.keep fun g hg => hb.block g (h.lt g hg).2
theorem OwnOp.at_ {w : World} {base : Nat} {v : Value} {X : List Rn.Op} (h : OwnOp w base v X) : ∃ a c, v = .slice a X.length c ∧ OpAt w a X ∧ (∀ q, a = some q → base ≤ q.block) ∧ X.length ≤ c ∧ c ≤ maxLen := by
  rcases h.2 with ⟨rfl, h0⟩ | ⟨g, cap, cur, hv, hb, hg, h1, h2, h3, h4⟩
  · have : X = [] := List.eq_nil_of_length_eq_zero h0
    subst this
    exact ⟨none, 0, rfl, OpAt.nil _ _, (fun q hq => by cases hq), Nat.le_refl _, Nat.zero_le _⟩
  · refine ⟨_, cap, hv, fun j x hj => ⟨g, 0, rfl, ?_, ?_, ?_⟩, fun q hq => ?_, h1, h2⟩
    · have e := flat_at (enc := so) (c := 3) X (fun x _ => so_len x) j x hj 0 (.int .i64 x.x) rfl
      rw [← h4, List.getElem?_take] at e
      split at e
      · rw [cell_of_row w g _ cur _ _ hg, Nat.zero_add]
        simpa using e
      · cases e
    · have e := flat_at (enc := so) (c := 3) X (fun x _ => so_len x) j x hj 1 (.int .i64 x.k) rfl
      rw [← h4, List.getElem?_take] at e
      split at e
      · rw [cell_of_row w g _ cur _ _ hg, Nat.zero_add]
        simpa using e
      · cases e
    · have e := flat_at (enc := so) (c := 3) X (fun x _ => so_len x) j x hj 2 (.int .i64 x.i) rfl
      rw [← h4, List.getElem?_take] at e
      split at e
      · rw [cell_of_row w g _ cur _ _ hg, Nat.zero_add]
        simpa using e
      · cases e
    · cases hq; exact hb
theorem OwnOp.lower {w : World} {base base' : Nat} {v : Value} {X : List Rn.Op} (h : OwnOp w base v X) (hb : base' ≤ base) : OwnOp w base' v X := by
  refine ⟨h.1, ?_⟩
  rcases h.2 with e | ⟨g, cap, cur, hv, hg, r⟩
  · exact .inl e
  · exact .inr ⟨g, cap, cur, hv, Nat.le_trans hb hg, r⟩
/-- An operation laid over another one. -/
theorem OwnOp.set {w : World} {base g n c : Nat} {X : List Rn.Op} (h : OwnOp w base (.slice (some ⟨g, 0, none⟩) n c) X) (k : Nat) (hk : k < X.length) (x : Rn.Op) :
    OwnOp (w.setCells g (k * 3) (so x)) base (.slice (some ⟨g, 0, none⟩) n c) (X.set k x) := by
  rcases h.2 with ⟨e, _⟩ | ⟨g', cap, cur, hv, hg, hh, h1, h2, h3, h4⟩
  · cases e
  · injection hv with e1 e2 e3
    have eg : g = g' := by injection e1 with e1; injection e1
    subst eg; subst e2; subst e3
    have hfit : k * 3 + (so x).length ≤ cur.size := by rw [so_len, h3]; omega
    rw [setCells_eq_setRow Try.prog w g (k * 3) cur _ (so x) hh hfit (so_one x)]
    refine ⟨by rw [op_len], .inr ⟨g, c, _, by rw [List.length_set], hg, setRow_heap w g cur _ _ _ hh, by rw [List.length_set]; exact h1, h2, ?_, ?_⟩⟩
    · rw [List.size_toArray, List.length_append, List.length_append, List.length_take, List.length_drop, Array.length_toList]
      omega
    · have e := flat_set (enc := so) (c := 3) X (fun x _ => so_len x) k x hk (so_len x)
      rw [e, ← h4, List.length_set]
      have l0 : cur.toList.length = c * 3 := by rw [Array.length_toList, h3]
      have s2 : (so x).length = 3 := rfl
      show List.take _ (List.take (k * 3) cur.toList ++ so x ++ List.drop (k * 3 + (so x).length) cur.toList) = _
      rw [s2, List.take_take, Nat.min_eq_left (by omega), List.take_append, List.take_of_length_le (by rw [List.length_append, List.length_take, s2]; omega), List.drop_take]
      congr 2
      rw [List.length_append, List.length_take, s2]
      omega
theorem OwnOp.grows {w' : World} {base : Nat} {v' : Value} {X : List Rn.Op} {x : Rn.Op} (h : w'.ownsRow base 51 3 v' (X.length + 1) (X.flatMap so ++ so x)) : OwnOp w' base v' (X ++ [x]) := by
  unfold OwnOp
  rw [List.length_append, List.flatMap_append]
  simpa using h
theorem OwnOp.growsMany {w' : World} {base n : Nat} {v' : Value} {X Y : List Rn.Op} (h : w'.ownsRow base 51 3 v' n (X.flatMap so ++ Y.flatMap so)) (hn : n = X.length + Y.length) : OwnOp w' base v' (X ++ Y) := by
  unfold OwnOp
  rw [List.length_append, List.flatMap_append, ← hn]
  exact h
theorem own_op {w : World} {base : Nat} {a : Option Addr} {n c : Nat} {X : List Rn.Op} (h : OwnOp w base (.slice a n c) X) : OpAt w a X := by
  obtain ⟨a', c', e, hp, _⟩ := h.at_
  have ea : a = a' := by injection e
  rw [ea]; exact hp
theorem own_opcap {w : World} {base : Nat} {a : Option Addr} {n c : Nat} {X : List Rn.Op} (h : OwnOp w base (.slice a n c) X) : X.length ≤ c ∧ c ≤ maxLen := by
  obtain ⟨a', c', e, _, _, h1, h2⟩ := h.at_
  have ec : c = c' := by injection e
  rw [ec]; exact ⟨h1, h2⟩
theorem own_oplen {w : World} {base : Nat} {a : Option Addr} {n c : Nat} {X : List Rn.Op} (h : OwnOp w base (.slice a n c) X) : n = X.length := by
  obtain ⟨a', c', e, _⟩ := h.at_
  injection e
theorem OwnOp.fz {w : World} {base g n c : Nat} {X : List Rn.Op} (h : OwnOp w base (.slice (some ⟨g, 0, none⟩) n c) X) (i : Nat) : w.frozen? ⟨g, i, none⟩ = false := by
  rcases h.2 with ⟨e, _⟩ | ⟨g', cap, cur, hv, hg, hh, r⟩
  · cases e
  · injection hv with e1 e2 e3
    have eg : g = g' := by injection e1 with e1; injection e1
    subst eg
    simp [World.frozen?, hh]
theorem OwnOp.cells {w : World} {base g n c : Nat} {X : List Rn.Op} (h : OwnOp w base (.slice (some ⟨g, 0, none⟩) n c) X) {k : Nat} {x : Rn.Op} (hx : X[k]? = some x) :
    w.cell? ⟨g, k * 3, none⟩ = some (.int .i64 x.x) ∧ w.cell? ⟨g, k * 3 + 1, none⟩ = some (.int .i64 x.k) ∧ w.cell? ⟨g, k * 3 + 2, none⟩ = some (.int .i64 x.i) := by
  obtain ⟨b, o, ea, d1, d2, d3⟩ := own_op h k x hx
  rcases h.2 with ⟨e', _⟩ | ⟨g', cap, cur, hv, hg, hh, r⟩
  · cases e'
  · injection ea with ea
    injection ea with e1 e2
    subst e1; subst e2
    rw [Nat.zero_add] at d1 d2 d3
    exact ⟨d1, d2, d3⟩
theorem OwnOp.ge {w : World} {base g n c : Nat} {X : List Rn.Op} (h : OwnOp w base (.slice (some ⟨g, 0, none⟩) n c) X) : base ≤ g ∧ g < w.heap.size := h.lt g rfl
theorem OwnOp.some {w : World} {base : Nat} {v : Value} {X : List Rn.Op} (h : OwnOp w base v X) (hp : 0 < X.length) : ∃ g c, v = .slice (some ⟨g, 0, none⟩) X.length c ∧ X.length ≤ c := by
  rcases h.2 with ⟨_, h0⟩ | ⟨g, cap, cur, hv, _, _, h1, _⟩
  · omega
  · exact ⟨g, cap, hv, h1⟩
theorem op_info : (Try.prog.info? 51).map (fun i => (i.zero, i.size, i.bytes)) = some (some (.agg #[.int .i64 0, .int .i64 0, .int .i64 0]), 3, 24) := by kernel_rfl

/-! ### Boxes of three cells -/
theorem box3 {w : World} {x y z : Value} {T : TypeId} {w1 : World} (hb : Below (w.alloc (.cells #[x, y, z] T)).heap.size (w.alloc (.cells #[x, y, z] T)) w1) :
    w1.cell? ⟨w.heap.size, 0, none⟩ = some x ∧ w1.cell? ⟨w.heap.size, 1, none⟩ = some y ∧ w1.cell? ⟨w.heap.size, 2, none⟩ = some z := by
  have hg : w1.heap[w.heap.size]? = some (.cells #[x, y, z] T (0, 0)) := (hb.block _ (by simp)).trans (heap_alloc_new w _)
  exact ⟨by rw [cell_of_row w1 _ _ _ _ _ hg]; rfl, by rw [cell_of_row w1 _ _ _ _ _ hg]; rfl, by rw [cell_of_row w1 _ _ _ _ _ hg]; rfl⟩

/-! ### Arrays as one value -/
/-- What has ended, as the cells of an array. -/
def eA (E : Nat → Int) : Array Value := ((List.range 12).map fun t => Value.int .i64 (E t)).toArray
def bA (R : Nat → Bool) : Array Value := ((List.range 12).map fun t => Value.bool (R t)).toArray
def pA (R : Nat → Nat → Bool) : Array Value := ((List.range 12).flatMap fun s => (List.range 12).map fun t => Value.bool (R s t)).toArray
theorem eA_size (E : Nat → Int) : (eA E).size = 12 := by simp [eA]
theorem bA_size (R : Nat → Bool) : (bA R).size = 12 := by simp [bA]
theorem pA_size (R : Nat → Nat → Bool) : (pA R).size = 144 := by
  unfold pA
  rw [List.size_toArray, flat_len (List.range 12) (c := 12) (fun s _ => by simp)]
  simp
end Go.Proofs.Ytjoaedkgjnchoac.PRun
