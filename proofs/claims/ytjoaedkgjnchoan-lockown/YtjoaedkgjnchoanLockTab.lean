/- Tables of locks in memory: how a list of locks lies as a value, an item, a table, wherever it lies. -/
import Derived.Test.YtjoaedkgjnchoanLockMem
namespace Go.Proofs.Ytjoaedkgjnchoan.PLock
open Go Go.RowKit PPool
set_option maxRecDepth 100000

/-- A value that is a list of locks. -/
def LsAt (w : World) (v : Value) (L : List Lk.Lo) : Prop := ∃ a c, v = .slice a L.length c ∧ LkAt w a L ∧ L.length ≤ c ∧ c ≤ maxLen ∧ (a = none → c = 0)
theorem LsAt.below {w w' : World} {v : Value} {L : List Lk.Lo} (h : LsAt w v L) (hb : Below w.heap.size w w') : LsAt w' v L := by
  obtain ⟨a, c, e, h1, h2⟩ := h
  exact ⟨a, c, e, h1.below hb, h2⟩
theorem LsAt.nil (w : World) : LsAt w (.slice none 0 0) [] := ⟨none, 0, rfl, LkAt.nil _ _, Nat.le_refl _, Nat.zero_le _, fun _ => rfl⟩
theorem OwnLk.ls {w : World} {base : Nat} {v : Value} {L : List Lk.Lo} (h : OwnLk w base v L) : LsAt w v L := by
  obtain ⟨a, c, e, h1, _, h2, h3⟩ := h.at_
  refine ⟨a, c, e, h1, h2, h3, fun ha => ?_⟩
  subst ha
  rcases h.2 with ⟨e2, _⟩ | ⟨g, cap, cur, e2, _⟩
  · rw [e] at e2; injection e2
  · rw [e] at e2; injection e2 with e3; cases e3
theorem LsAt.one {w : World} {v : Value} {L : List Lk.Lo} (h : LsAt w v L) : v.oneCell' = true := by
  obtain ⟨a, c, rfl, _⟩ := h
  rfl
theorem LsAt.len {w : World} {v : Value} {L : List Lk.Lo} (h : LsAt w v L) : L.length ≤ maxLen := by
  obtain ⟨a, c, _, _, h1, h2, _⟩ := h
  omega

/-- A block of locks. -/
def TyAt (w : World) (b : Nat) : Prop := ∃ cur, w.heap[b]? = some (.cells cur 62 (0, 0))
theorem TyAt.keep {w w' : World} {b : Nat} (h : TyAt w b) (hb : w'.heap[b]? = w.heap[b]?) : TyAt w' b := by
  obtain ⟨cur, e⟩ := h
  exact ⟨cur, hb.trans e⟩
theorem TyAt.lt {w : World} {b : Nat} (h : TyAt w b) : b < w.heap.size := by
  obtain ⟨cur, e⟩ := h
  exact lt_of_heap e
/-- The same, in blocks of locks from a bound on. -/
def LsIn (w : World) (base : Nat) (v : Value) (L : List Lk.Lo) : Prop := ∃ a c, v = .slice a L.length c ∧ LkAt w a L ∧ L.length ≤ c ∧ c ≤ maxLen ∧ (a = none → c = 0) ∧ ∀ q, a = some q → base ≤ q.block ∧ TyAt w q.block
theorem LsIn.ls {w : World} {base : Nat} {v : Value} {L : List Lk.Lo} (h : LsIn w base v L) : LsAt w v L := by
  obtain ⟨a, c, e, h1, h2, h3, h4, _⟩ := h
  exact ⟨a, c, e, h1, h2, h3, h4⟩
theorem LsIn.keep {w w' : World} {base : Nat} {v : Value} {L : List Lk.Lo} (h : LsIn w base v L) (hb : ∀ b, base ≤ b → TyAt w b → w'.heap[b]? = w.heap[b]?) : LsIn w' base v L := by
  obtain ⟨a, c, e, h1, h2, h3, h4, h5⟩ := h
  exact ⟨a, c, e, h1.keep fun q hq => hb _ (h5 q hq).1 (h5 q hq).2, h2, h3, h4, fun q hq => ⟨(h5 q hq).1, (h5 q hq).2.keep (hb _ (h5 q hq).1 (h5 q hq).2)⟩⟩
theorem LsIn.below {w w' : World} {base : Nat} {v : Value} {L : List Lk.Lo} (h : LsIn w base v L) (hb : Below w.heap.size w w') : LsIn w' base v L := h.keep fun b _ ht => hb.block b ht.lt
theorem LsIn.lower {w : World} {base base' : Nat} {v : Value} {L : List Lk.Lo} (h : LsIn w base v L) (hb : base' ≤ base) : LsIn w base' v L := by
  obtain ⟨a, c, e, h1, h2, h3, h4, h5⟩ := h
  exact ⟨a, c, e, h1, h2, h3, h4, fun q hq => ⟨Nat.le_trans hb (h5 q hq).1, (h5 q hq).2⟩⟩
theorem OwnLk.lsIn {w : World} {base : Nat} {v : Value} {L : List Lk.Lo} (h : OwnLk w base v L) : LsIn w base v L := by
  obtain ⟨a, c, e, h1, h2, h3, h4⟩ := h.ls
  refine ⟨a, c, e, h1, h2, h3, h4, fun q hq => ?_⟩
  rcases h.2 with ⟨e2, _⟩ | ⟨g, cap, cur, e2, hg, hh, _⟩
  · rw [e, hq] at e2; injection e2 with e3; cases e3
  · rw [e, hq] at e2
    injection e2 with e3
    injection e3 with e3
    subst e3
    exact ⟨hg, cur, hh⟩
/-- What another row that grows leaves. -/
theorem LsIn.grown {w w' : World} {base : Nat} {v : Value} {L : List Lk.Lo} {row : Option Nat} (h : LsIn w base v L) (hg : w.grownBy w' row) (hr : ∀ b, row = some b → ¬ TyAt w b) : LsIn w' base v L :=
  h.keep fun b _ ht => hg.block b ht.lt (fun e => hr b e.symm ht)

/-- An item as a value. -/
def itv (i : Int) (vh vq : Value) : Value := .agg #[.int .i64 i, vh, vq]
/-- A slice of items: its cells lie where it says, and the lists that they hold. -/
def TbAt (w : World) (a : Option Addr) (T : List Lk.It) : Prop := ∀ (j : Nat) (x : Lk.It), T[j]? = some x →
  ∃ b o vh vq, a = some ⟨b, o, none⟩ ∧ w.cell? ⟨b, o + j * 3, none⟩ = some (.int .i64 x.i) ∧ w.cell? ⟨b, o + j * 3 + 1, none⟩ = some vh ∧ w.cell? ⟨b, o + j * 3 + 2, none⟩ = some vq ∧ LsAt w vh x.h ∧ LsAt w vq x.q
theorem TbAt.nil (w : World) (a : Option Addr) : TbAt w a [] := fun j x h => by simp at h
theorem TbAt.below {w w' : World} {a : Option Addr} {T : List Lk.It} (h : TbAt w a T) (hb : Below w.heap.size w w') : TbAt w' a T := fun j x hj => by
  obtain ⟨b, o, vh, vq, e, h1, h2, h3, h4, h5⟩ := h j x hj
  exact ⟨b, o, vh, vq, e, keep1 hb h1, keep1 hb h2, keep1 hb h3, h4.below hb, h5.below hb⟩
theorem TbAt.take {w : World} {a : Option Addr} {T : List Lk.It} (h : TbAt w a T) (k : Nat) : TbAt w a (T.take k) := fun j x hj => by
  rw [List.getElem?_take] at hj
  split at hj
  · exact h j x hj
  · cases hj
theorem item_info : (Try.prog.info? 66).map (fun i => (i.zero, i.size, i.bytes)) = some (some (.agg #[.int .i64 0, .slice none 0 0, .slice none 0 0]), 3, 56) := by kernel_rfl
theorem drop_of {α : Type} {T : List α} {k : Nat} {x : α} (hx : T[k]? = some x) : T.drop k = x :: T.drop (k + 1) := by
  obtain ⟨h1, h2⟩ := List.getElem?_eq_some_iff.1 hx
  rw [List.drop_eq_getElem_cons h1, h2]
end Go.Proofs.Ytjoaedkgjnchoan.PLock
