/- Rows of numbers and of bools in memory: how a slice lies, wherever it lies, and in a row of one's own; what a store, a shift and an append leave. -/
import Derived.Test.YtbgcldckgiiedajDoorSectMem
import Derived.Test.YtbgcldckgiiedajDoorPoolNum
import Derived.Deep.QuietTactic
import Derived.BigQuiet
import Derived.WalkLawsBesides
namespace Go.Proofs.YtbgcldckgiiedajDoor.PPool
open Go Go.RowKit
set_option maxRecDepth 100000

theorem below_tr {w w1 w2 : World} (h : Below w.heap.size w w1) (k : Below w1.heap.size w1 w2) : Below w.heap.size w w2 := h.trans (k.mono h.size)
theorem bx (w : World) (o : Obj) : Below w.heap.size w (w.alloc o) := (Below.refl _ w).alloc (Nat.le_refl _) _

section rows
variable {α : Type} (enc : α → Value) (ty : TypeId)

/-- A slice of one-cell elements: its cells lie where it says. -/
def RowAt (w : World) (a : Option Addr) (X : List α) : Prop := ∀ (j : Nat) (x : α), X[j]? = some x → ∃ b o, a = some ⟨b, o, none⟩ ∧ w.cell? ⟨b, o + j, none⟩ = some (enc x)
/-- A row of one's own. -/
def OwnR (w : World) (base : Nat) (v : Value) (X : List α) : Prop := w.ownsRow base ty 1 v X.length (X.map enc)

variable {enc ty}
theorem RowAt.nil (w : World) (a : Option Addr) : RowAt enc w a [] := fun j x h => by simp at h
theorem RowAt.below {w w' : World} {a : Option Addr} {X : List α} (h : RowAt enc w a X) (hb : Below w.heap.size w w') : RowAt enc w' a X := fun j x hj => by
  obtain ⟨b, o, e, h1⟩ := h j x hj
  exact ⟨b, o, e, (hb.cell (p := ⟨b, o + j, none⟩) (World.block_lt_of_cell? w _ h1)).trans h1⟩
theorem RowAt.keep {w w' : World} {a : Option Addr} {X : List α} (h : RowAt enc w a X) (hb : ∀ q, a = some q → w'.heap[q.block]? = w.heap[q.block]?) : RowAt enc w' a X := fun j x hj => by
  obtain ⟨b, o, e, h1⟩ := h j x hj
  exact ⟨b, o, e, (World.cell?_of_block (a := ⟨b, o + j, none⟩) (hb ⟨b, o, none⟩ e)).trans h1⟩
theorem RowAt.lt {w : World} {a : Option Addr} {X : List α} (h : RowAt enc w a X) (hp : 0 < X.length) : ∃ b o, a = some ⟨b, o, none⟩ ∧ b < w.heap.size := by
  obtain ⟨x, hx⟩ : ∃ x, X[0]? = some x := ⟨_, List.getElem?_eq_getElem hp⟩
  obtain ⟨b, o, e, h1⟩ := h 0 x hx
  exact ⟨b, o, e, World.block_lt_of_cell? w _ h1⟩
/-- What lies behind the first k. -/
theorem RowAt.drop {w : World} {b o : Nat} {X : List α} (h : RowAt enc w (some ⟨b, o, none⟩) X) (k : Nat) : RowAt enc w (some ⟨b, o + k, none⟩) (X.drop k) := fun j x hj => by
  rw [List.getElem?_drop] at hj
  obtain ⟨b', o', e, h1⟩ := h _ x hj
  cases e
  exact ⟨b, o + k, rfl, by rw [Nat.add_assoc]; exact h1⟩
theorem RowAt.take {w : World} {a : Option Addr} {X : List α} (h : RowAt enc w a X) (k : Nat) : RowAt enc w a (X.take k) := fun j x hj => by
  rw [List.getElem?_take] at hj
  split at hj
  · exact h j x hj
  · cases hj

theorem OwnR.nil (w : World) (base : Nat) : OwnR enc ty w base (.slice none 0 0) [] := World.ownsRow_nil _ _ _ _
theorem OwnR.keep {w w' : World} {base : Nat} {v : Value} {X : List α} (h : OwnR enc ty w base v X) (hb : ∀ g, v.ownBlock = some g → w'.heap[g]? = w.heap[g]?) : OwnR enc ty w' base v X := ownsRow_of_block h hb
theorem OwnR.below {w w' : World} {base : Nat} {v : Value} {X : List α} (h : OwnR enc ty w base v X) (hb : Below w.heap.size w w') : OwnR enc ty w' base v X :=
  h.keep fun g hg => hb.block g (h.lt g hg).2
theorem OwnR.lower {w : World} {base base' : Nat} {v : Value} {X : List α} (h : OwnR enc ty w base v X) (hb : base' ≤ base) : OwnR enc ty w base' v X := by
  refine ⟨h.1, ?_⟩
  rcases h.2 with e | ⟨g, cap, cur, hv, hg, r⟩
  · exact .inl e
  · exact .inr ⟨g, cap, cur, hv, Nat.le_trans hb hg, r⟩
theorem OwnR.at_ {w : World} {base : Nat} {v : Value} {X : List α} (h : OwnR enc ty w base v X) : ∃ a c, v = .slice a X.length c ∧ RowAt enc w a X ∧ (∀ q, a = some q → base ≤ q.block) ∧ X.length ≤ c ∧ c ≤ maxLen := by
  rcases h.2 with ⟨rfl, h0⟩ | ⟨g, cap, cur, hv, hb, hg, h1, h2, h3, h4⟩
  · have : X = [] := List.eq_nil_of_length_eq_zero h0
    subst this
    exact ⟨none, 0, rfl, RowAt.nil _ _, (fun q hq => by cases hq), Nat.le_refl _, Nat.zero_le _⟩
  · refine ⟨_, cap, hv, fun j x hj => ⟨g, 0, rfl, ?_⟩, fun q hq => ?_, h1, h2⟩
    · have e : (X.map enc)[j]? = some (enc x) := by rw [List.getElem?_map, hj]; rfl
      rw [← h4, List.getElem?_take] at e
      split at e
      · rw [cell_of_row w g _ cur _ _ hg, Nat.zero_add]
        simpa using e
      · cases e
    · cases hq; exact hb
/-- A row that is there: its block, and all cells of it. -/
theorem OwnR.open_ {w : World} {base : Nat} {v : Value} {X : List α} (h : OwnR enc ty w base v X) (hp : 0 < X.length) : ∃ g c cur, v = .slice (some ⟨g, 0, none⟩) X.length c ∧ base ≤ g ∧ w.heap[g]? = some (.cells cur ty (0, 0)) ∧ X.length ≤ c ∧ c ≤ maxLen ∧ cur.size = c ∧ cur.toList.take X.length = X.map enc := by
  rcases h.2 with ⟨_, h0⟩ | ⟨g, cap, cur, hv, hb, hg, h1, h2, h3, h4⟩
  · omega
  · exact ⟨g, cap, cur, hv, hb, hg, h1, h2, by omega, by simpa using h4⟩
theorem OwnR.fz {w : World} {base g n c : Nat} {X : List α} (h : OwnR enc ty w base (.slice (some ⟨g, 0, none⟩) n c) X) (i : Nat) : w.frozen? ⟨g, i, none⟩ = false := by
  rcases h.2 with ⟨e, _⟩ | ⟨g', cap, cur, hv, hg, hh, r⟩
  · cases e
  · injection hv with e1 e2 e3
    have eg : g = g' := by injection e1 with e1; injection e1
    subst eg
    simp [World.frozen?, hh]
theorem OwnR.ge {w : World} {base g n c : Nat} {X : List α} (h : OwnR enc ty w base (.slice (some ⟨g, 0, none⟩) n c) X) : base ≤ g ∧ g < w.heap.size := h.lt g rfl
theorem OwnR.cell {w : World} {base g n c : Nat} {X : List α} (h : OwnR enc ty w base (.slice (some ⟨g, 0, none⟩) n c) X) {k : Nat} {x : α} (hx : X[k]? = some x) : w.cell? ⟨g, k, none⟩ = some (enc x) := by
  obtain ⟨a, c', e, hp, _⟩ := h.at_
  injection e with e1 _ _
  obtain ⟨b, o, ea, d1⟩ := hp k x hx
  rcases h.2 with ⟨e', _⟩ | ⟨g', cap, cur, hv, hg, hh, r⟩
  · cases e'
  · injection hv with e2 _ _
    rw [← e1] at ea
    injection ea with ea
    injection ea with e3 e4 _
    subst e3; subst e4
    rw [Nat.zero_add] at d1
    exact d1
/-- An element laid over another one. -/
theorem OwnR.set {w : World} {base g n c : Nat} {X : List α} (h : OwnR enc ty w base (.slice (some ⟨g, 0, none⟩) n c) X) (k : Nat) (x : α) :
    OwnR enc ty (w.setCell ⟨g, k, none⟩ (enc x)) base (.slice (some ⟨g, 0, none⟩) n c) (X.set k x) := by
  rcases h.2 with ⟨e, _⟩ | ⟨g', cap, cur, hv, hg, hh, h1, h2, h3, h4⟩
  · cases e
  · injection hv with e1 e2 e3
    have eg : g = g' := by injection e1 with e1; injection e1
    subst eg; subst e2; subst e3
    rw [setCell_eq_setRow w g k cur _ _ _ hh]
    refine ⟨by simp, .inr ⟨g, c, _, by rw [List.length_set], hg, setRow_heap w g cur _ _ _ hh, by rw [List.length_set]; exact h1, h2, by simpa using h3, ?_⟩⟩
    rw [List.length_set, Array.toList_setIfInBounds, List.take_set, h4, List.map_set]
/-- Cells of it laid over by others. -/
theorem OwnR.sets {w : World} {base g n c : Nat} {X : List α} (h : OwnR enc ty w base (.slice (some ⟨g, 0, none⟩) n c) X) (k : Nat) (Y : List α) (hk : k + Y.length ≤ X.length) :
    OwnR enc ty (w.setCells g k (Y.map enc)) base (.slice (some ⟨g, 0, none⟩) n c) (X.take k ++ Y ++ X.drop (k + Y.length)) := by
  induction Y generalizing w k X with
  | nil => simpa [World.setCells] using h
  | cons y Y ih =>
    simp only [List.length_cons] at hk
    have h1 := h.set k y
    have h2 := ih h1 (k + 1) (by rw [List.length_set]; omega)
    show OwnR enc ty ((w.setCell ⟨g, k, none⟩ (enc y)).setCells g (k + 1) (Y.map enc)) base _ _
    have e : (X.set k y).take (k + 1) ++ Y ++ (X.set k y).drop (k + 1 + Y.length) = X.take k ++ y :: Y ++ X.drop (k + (y :: Y).length) := by
      rw [List.drop_set_of_lt (by omega), List.take_set, List.length_cons]
      have : (X.take (k + 1)).set k y = X.take k ++ [y] := by
        rw [List.take_succ_eq_append_getElem (by omega : k < X.length), List.set_append_right _ _ (by rw [List.length_take]; omega), List.length_take, Nat.min_eq_left (by omega), Nat.sub_self]
        rfl
      rw [this, show k + 1 + Y.length = k + (Y.length + 1) by omega]
      simp
    rw [← e]
    exact h2
theorem OwnR.grows {w' : World} {base : Nat} {v' : Value} {X : List α} {x : α} (h : w'.ownsRow base ty 1 v' (X.length + 1) (X.map enc ++ [enc x])) : OwnR enc ty w' base v' (X ++ [x]) := by
  unfold OwnR
  rw [List.length_append, List.map_append]
  simpa using h
theorem OwnR.len {w : World} {base : Nat} {a : Option Addr} {n c : Nat} {X : List α} (h : OwnR enc ty w base (.slice a n c) X) : n = X.length := by
  obtain ⟨_, _, e, _⟩ := h.at_
  injection e
end rows

abbrev IntsAt := RowAt (Value.int .i64)
abbrev BoolsAt := RowAt Value.bool
abbrev OwnInts := OwnR (Value.int .i64) 3
abbrev OwnBools := OwnR Value.bool 4
theorem int_one (x : Int) : (Value.int .i64 x).oneCell' = true := rfl
theorem bool_one (x : Bool) : (Value.bool x).oneCell' = true := rfl

/-- What is kept: all blocks but those of own. -/
theorem goes_set {own : Nat → Prop} {w w1 : World} {g : Nat} (h : Goes own w w1 own) (hg : own g ∨ w.heap.size ≤ g) : ∀ (k : Nat) (cs : List Value), Goes own w (w1.setCells g k cs) own := by
  intro k cs
  induction cs generalizing w1 k with
  | nil => exact h
  | cons c cs ih => exact ih (h.setCell (q := ⟨g, k, none⟩) hg c) (k + 1)
theorem goes_below {own : Nat → Prop} {w w1 w2 : World} (h : Goes own w w1 own) (hb : Below w1.heap.size w1 w2) : Goes own w w2 own :=
  h.trans ⟨hb.os, hb.tape, hb.output, hb.size, fun k hk _ => hb.block k hk, fun _ hk => .inl hk⟩

theorem shift_behind {P : List Int} {k : Nat} (hk : k < P.length) : (P.take k ++ P.drop (k + 1) ++ P.drop (k + (P.drop (k + 1)).length)).set (P.length - 1) P[k] = Pl.behind P k := by
  have e : P.drop (k + (P.drop (k + 1)).length) = [P[P.length - 1]] := by
    rw [List.length_drop, show k + (P.length - (k + 1)) = P.length - 1 by omega]
    rw [List.drop_eq_getElem_cons (by omega), List.drop_of_length_le (by omega)]
  rw [e, ← List.eraseIdx_eq_take_drop_succ, List.set_append_right _ _ (by rw [List.length_eraseIdx_of_lt hk]; omega), List.length_eraseIdx_of_lt hk, Nat.sub_self]
  unfold Pl.behind
  rw [List.getElem?_eq_getElem hk]
  rfl

end Go.Proofs.YtbgcldckgiiedajDoor.PPool
