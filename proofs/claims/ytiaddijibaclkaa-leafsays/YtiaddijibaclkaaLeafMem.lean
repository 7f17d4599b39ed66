/- A page's slots in memory: how a slice of slots lies, wherever it lies, and in a row of one's own; what a store and an append leave. -/
import Derived.Test.YtiaddijibaclkaaSectMem
import Derived.Test.YtiaddijibaclkaaPut
import Derived.Test.YtiaddijibaclkaaLeafPut
import Derived.Test.YtiaddijibaclkaaLeafClone
namespace Go.Proofs.Ytiaddijibaclkaa.PLeaf
open Go Go.RowKit
set_option maxRecDepth 100000

/-- A slot's two cells. -/
def sc (x : Lf.Sl) : List Value := [.bool x.used, .string x.text]
theorem sc_len (x : Lf.Sl) : (sc x).length = 2 := rfl
theorem sc_one (x : Lf.Sl) : ∀ v ∈ sc x, v.oneCell' = true := by
  intro v hv
  simp only [sc, List.mem_cons, List.not_mem_nil, or_false] at hv
  rcases hv with rfl | rfl <;> rfl
theorem pg_one (X : List Lf.Sl) : ∀ v ∈ X.flatMap sc, v.oneCell' = true := by
  intro v hv
  obtain ⟨x, _, h⟩ := List.mem_flatMap.1 hv
  exact sc_one x v h
theorem pg_len (X : List Lf.Sl) : (X.flatMap sc).length = X.length * 2 := flat_len X fun x _ => sc_len x

theorem pg_take : ∀ (X : List Lf.Sl) (k : Nat), (X.take k).flatMap sc = (X.flatMap sc).take (k * 2)
  | [], k => by simp
  | x :: X, 0 => by simp
  | x :: X, k + 1 => by
    rw [List.take_succ_cons, List.flatMap_cons, List.flatMap_cons, pg_take X k, show (k + 1) * 2 = (sc x).length + k * 2 by rw [sc_len]; omega, List.take_length_add_append]

/-- A slice of slots: its cells lie where it says. -/
def PgAt (w : World) (a : Option Addr) (X : List Lf.Sl) : Prop := ∀ (j : Nat) (x : Lf.Sl), X[j]? = some x →
  ∃ b o, a = some ⟨b, o, none⟩ ∧ w.cell? ⟨b, o + j * 2, none⟩ = some (.bool x.used) ∧ w.cell? ⟨b, o + j * 2 + 1, none⟩ = some (.string x.text)
theorem PgAt.nil (w : World) (a : Option Addr) : PgAt w a [] := fun j x h => by simp at h
theorem PgAt.below {w w' : World} {a : Option Addr} {X : List Lf.Sl} (h : PgAt w a X) (hb : Below w.heap.size w w') : PgAt w' a X := fun j x hj => by
  obtain ⟨b, o, e, h1, h2⟩ := h j x hj
  exact ⟨b, o, e, (hb.cell (p := ⟨b, o + j * 2, none⟩) (World.block_lt_of_cell? w _ h1)).trans h1, (hb.cell (p := ⟨b, o + j * 2 + 1, none⟩) (World.block_lt_of_cell? w _ h2)).trans h2⟩
theorem PgAt.keep {w w' : World} {a : Option Addr} {X : List Lf.Sl} (h : PgAt w a X) (hb : ∀ q, a = some q → w'.heap[q.block]? = w.heap[q.block]?) : PgAt w' a X := fun j x hj => by
  obtain ⟨b, o, e, h1, h2⟩ := h j x hj
  have := hb _ e
  exact ⟨b, o, e, (World.cell?_of_block (a := ⟨b, o + j * 2, none⟩) this).trans h1, (World.cell?_of_block (a := ⟨b, o + j * 2 + 1, none⟩) this).trans h2⟩
theorem PgAt.take {w : World} {a : Option Addr} {X : List Lf.Sl} (h : PgAt w a X) (k : Nat) : PgAt w a (X.take k) := fun j x hj => by
  rw [List.getElem?_take] at hj
  split at hj
  · exact h j x hj
  · cases hj

theorem slot_info : (Try.prog.info? 90).map (fun i => (i.zero, i.size, i.bytes)) = some (some (.agg #[.bool false, .string ⟨#[]⟩]), 2, 24) := by kernel_rfl

/-- A row of slots of one's own. -/
def OwnPg (w : World) (base : Nat) (v : Value) (X : List Lf.Sl) : Prop := w.ownsRow base 90 2 v X.length (X.flatMap sc)
theorem OwnPg.nil (w : World) (base : Nat) : OwnPg w base (.slice none 0 0) [] := World.ownsRow_nil _ _ _ _
theorem OwnPg.keep {w w' : World} {base : Nat} {v : Value} {X : List Lf.Sl} (h : OwnPg w base v X) (hb : ∀ g, v.ownBlock = some g → w'.heap[g]? = w.heap[g]?) : OwnPg w' base v X := ownsRow_of_block h hb
theorem OwnPg.below {w w' : World} {base : Nat} {v : Value} {X : List Lf.Sl} (h : OwnPg w base v X) (hb : Below w.heap.size w w') : OwnPg w' base v X :=
  h.keep fun g hg => hb.block g (h.lt g hg).2
theorem OwnPg.at_ {w : World} {base : Nat} {v : Value} {X : List Lf.Sl} (h : OwnPg w base v X) : ∃ a c, v = .slice a X.length c ∧ PgAt w a X ∧ (∀ q, a = some q → base ≤ q.block) ∧ X.length ≤ c ∧ c ≤ maxLen := by
  rcases h.2 with ⟨rfl, h0⟩ | ⟨g, cap, cur, hv, hb, hg, h1, h2, h3, h4⟩
  · have : X = [] := List.eq_nil_of_length_eq_zero h0
    subst this
    exact ⟨none, 0, rfl, PgAt.nil _ _, (fun q hq => by cases hq), Nat.le_refl _, Nat.zero_le _⟩
  · refine ⟨_, cap, hv, fun j x hj => ⟨g, 0, rfl, ?_, ?_⟩, fun q hq => ?_, h1, h2⟩
    · have e := flat_at (enc := sc) (c := 2) X (fun x _ => sc_len x) j x hj 0 (.bool x.used) rfl
      rw [← h4, List.getElem?_take] at e
      split at e
      · rw [cell_of_row w g _ cur _ _ hg, Nat.zero_add]
        simpa using e
      · cases e
    · have e := flat_at (enc := sc) (c := 2) X (fun x _ => sc_len x) j x hj 1 (.string x.text) rfl
      rw [← h4, List.getElem?_take] at e
      split at e
      · rw [cell_of_row w g _ cur _ _ hg, Nat.zero_add]
        simpa using e
      · cases e
    · cases hq; exact hb
theorem OwnPg.lower {w : World} {base base' : Nat} {v : Value} {X : List Lf.Sl} (h : OwnPg w base v X) (hb : base' ≤ base) : OwnPg w base' v X := by
  refine ⟨h.1, ?_⟩
  rcases h.2 with e | ⟨g, cap, cur, hv, hg, r⟩
  · exact .inl e
  · exact .inr ⟨g, cap, cur, hv, Nat.le_trans hb hg, r⟩
/-- A beginning of it. -/
theorem OwnPg.cut {w : World} {base : Nat} {a : Option Addr} {n c : Nat} {X : List Lf.Sl} (h : OwnPg w base (.slice a n c) X) (k : Nat) (hk : k ≤ X.length) (hp : 0 < X.length) : OwnPg w base (.slice a k c) (X.take k) := by
  refine ⟨by rw [pg_len], ?_⟩
  rcases h.2 with ⟨_, h0⟩ | ⟨g, cap, cur, hv, hg, hh, h1, h2, h3, h4⟩
  · omega
  · injection hv with e1 e2 e3
    subst e1; subst e3
    refine .inr ⟨g, c, cur, by rw [List.length_take, Nat.min_eq_left hk], hg, hh, by rw [List.length_take]; omega, h2, h3, ?_⟩
    have e := pg_take X k
    rw [e, ← h4, List.take_take, List.length_take]
    congr 1
    omega
/-- A slot laid over another one. -/
theorem OwnPg.set {w : World} {base g n c : Nat} {X : List Lf.Sl} (h : OwnPg w base (.slice (some ⟨g, 0, none⟩) n c) X) (k : Nat) (hk : k < X.length) (x : Lf.Sl) :
    OwnPg (w.setCells g (k * 2) (sc x)) base (.slice (some ⟨g, 0, none⟩) n c) (X.set k x) := by
  rcases h.2 with ⟨e, _⟩ | ⟨g', cap, cur, hv, hg, hh, h1, h2, h3, h4⟩
  · cases e
  · injection hv with e1 e2 e3
    have eg : g = g' := by injection e1 with e1; injection e1
    subst eg; subst e2; subst e3
    have hfit : k * 2 + (sc x).length ≤ cur.size := by rw [sc_len, h3]; omega
    rw [setCells_eq_setRow Try.prog w g (k * 2) cur _ (sc x) hh hfit (sc_one x)]
    refine ⟨by rw [pg_len], .inr ⟨g, c, _, by rw [List.length_set], hg, setRow_heap w g cur _ _ _ hh, by rw [List.length_set]; exact h1, h2, ?_, ?_⟩⟩
    · rw [List.size_toArray, List.length_append, List.length_append, List.length_take, List.length_drop, Array.length_toList]
      omega
    · have e := flat_set (enc := sc) (c := 2) X (fun x _ => sc_len x) k x hk (sc_len x)
      rw [e, ← h4, List.length_set]
      have l0 : cur.toList.length = c * 2 := by rw [Array.length_toList, h3]
      have s2 : (sc x).length = 2 := rfl
      show List.take _ (List.take (k * 2) cur.toList ++ sc x ++ List.drop (k * 2 + (sc x).length) cur.toList) = _
      rw [s2, List.take_take, Nat.min_eq_left (by omega), List.take_append, List.take_of_length_le (by rw [List.length_append, List.length_take, s2]; omega), List.drop_take]
      congr 2
      rw [List.length_append, List.length_take, s2]
      omega
theorem OwnPg.grows {w' : World} {base : Nat} {v' : Value} {X : List Lf.Sl} {x : Lf.Sl} (h : w'.ownsRow base 90 2 v' (X.length + 1) (X.flatMap sc ++ sc x)) : OwnPg w' base v' (X ++ [x]) := by
  unfold OwnPg
  rw [List.length_append, List.flatMap_append]
  simpa using h

end Go.Proofs.Ytiaddijibaclkaa.PLeaf
