/- Rows of items in memory: the raw cells of each, and the table that they mean. -/
import Derived.Test.YtjoaedkgjnchoanLockTab
import Derived.Deep.WholeRow
import Derived.Deep.MidRow
namespace Go.Proofs.Ytjoaedkgjnchoan.PLock
open Go Go.RowKit PPool
set_option maxRecDepth 100000

/-- An item's cells: its number, and two slices. -/
structure Rw where
  i : Int
  ha : Option Addr
  hn : Nat
  hc : Nat
  qa : Option Addr
  qn : Nat
  qc : Nat
def Rw.vh (x : Rw) : Value := .slice x.ha x.hn x.hc
def Rw.vq (x : Rw) : Value := .slice x.qa x.qn x.qc
/-- An item's three cells. -/
def ic (x : Rw) : List Value := [.int .i64 x.i, .slice x.ha x.hn x.hc, .slice x.qa x.qn x.qc]
theorem ic_len (x : Rw) : (ic x).length = 3 := rfl
theorem ic_one (x : Rw) : ∀ v ∈ ic x, v.oneCell' = true := by
  intro v hv
  simp only [ic, List.mem_cons, List.not_mem_nil, or_false] at hv
  rcases hv with rfl | rfl | rfl <;> rfl
theorem rw_one (X : List Rw) : ∀ v ∈ X.flatMap ic, v.oneCell' = true := by
  intro v hv
  obtain ⟨x, _, h⟩ := List.mem_flatMap.1 hv
  exact ic_one x v h
theorem rw_len (X : List Rw) : (X.flatMap ic).length = X.length * 3 := flat_len X fun x _ => ic_len x
theorem rw_take : ∀ (X : List Rw) (k : Nat), (X.take k).flatMap ic = (X.flatMap ic).take (k * 3)
  | [], k => by simp
  | x :: X, 0 => by simp
  | x :: X, k + 1 => by
    rw [List.take_succ_cons, List.flatMap_cons, List.flatMap_cons, rw_take X k, show (k + 1) * 3 = (ic x).length + k * 3 by rw [ic_len]; omega, List.take_length_add_append]

/-- A slice of items: its cells lie where it says. -/
def RwAt (w : World) (a : Option Addr) (X : List Rw) : Prop := ∀ (j : Nat) (x : Rw), X[j]? = some x →
  ∃ b o, a = some ⟨b, o, none⟩ ∧ w.cell? ⟨b, o + j * 3, none⟩ = some (.int .i64 x.i) ∧ w.cell? ⟨b, o + j * 3 + 1, none⟩ = some (.slice x.ha x.hn x.hc) ∧ w.cell? ⟨b, o + j * 3 + 2, none⟩ = some (.slice x.qa x.qn x.qc)
theorem RwAt.nil (w : World) (a : Option Addr) : RwAt w a [] := fun j x h => by simp at h
theorem RwAt.below {w w' : World} {a : Option Addr} {X : List Rw} (h : RwAt w a X) (hb : Below w.heap.size w w') : RwAt w' a X := fun j x hj => by
  obtain ⟨b, o, e, h1, h2, h3⟩ := h j x hj
  exact ⟨b, o, e, keep1 hb h1, keep1 hb h2, keep1 hb h3⟩
theorem RwAt.keep {w w' : World} {a : Option Addr} {X : List Rw} (h : RwAt w a X) (hb : ∀ q, a = some q → w'.heap[q.block]? = w.heap[q.block]?) : RwAt w' a X := fun j x hj => by
  obtain ⟨b, o, e, h1, h2, h3⟩ := h j x hj
  have := hb _ e
  exact ⟨b, o, e, (World.cell?_of_block (a := ⟨b, o + j * 3, none⟩) this).trans h1, (World.cell?_of_block (a := ⟨b, o + j * 3 + 1, none⟩) this).trans h2, (World.cell?_of_block (a := ⟨b, o + j * 3 + 2, none⟩) this).trans h3⟩
theorem RwAt.drew {w : World} {a : Option Addr} {X : List Rw} (h : RwAt w a X) : RwAt w.drew a X := h.keep fun _ _ => rfl
theorem RwAt.take {w : World} {a : Option Addr} {X : List Rw} (h : RwAt w a X) (k : Nat) : RwAt w a (X.take k) := fun j x hj => by
  rw [List.getElem?_take] at hj
  split at hj
  · exact h j x hj
  · cases hj
/-- Below a bound that all its cells lie under. -/
theorem RwAt.lt {w : World} {a : Option Addr} {X : List Rw} (h : RwAt w a X) (hp : 0 < X.length) : ∃ b o, a = some ⟨b, o, none⟩ ∧ b < w.heap.size := by
  obtain ⟨b, o, e, h1, _⟩ := h 0 _ (List.getElem?_eq_getElem hp)
  exact ⟨b, o, e, World.block_lt_of_cell? w _ h1⟩

/-- A row of items of one's own. -/
def OwnIt (w : World) (base : Nat) (v : Value) (X : List Rw) : Prop := w.ownsRow base 66 3 v X.length (X.flatMap ic)
theorem OwnIt.nil (w : World) (base : Nat) : OwnIt w base (.slice none 0 0) [] := World.ownsRow_nil _ _ _ _
theorem OwnIt.keep {w w' : World} {base : Nat} {v : Value} {X : List Rw} (h : OwnIt w base v X) (hb : ∀ g, v.ownBlock = some g → w'.heap[g]? = w.heap[g]?) : OwnIt w' base v X := ownsRow_of_block h hb
theorem OwnIt.below {w w' : World} {base : Nat} {v : Value} {X : List Rw} (h : OwnIt w base v X) (hb : Below w.heap.size w w') : OwnIt w' base v X :=
  h.keep fun g hg => hb.block g (h.lt g hg).2
theorem OwnIt.at_ {w : World} {base : Nat} {v : Value} {X : List Rw} (h : OwnIt w base v X) : ∃ a c, v = .slice a X.length c ∧ RwAt w a X ∧ (∀ q, a = some q → base ≤ q.block) ∧ X.length ≤ c ∧ c ≤ maxLen := by
  rcases h.2 with ⟨rfl, h0⟩ | ⟨g, cap, cur, hv, hb, hg, h1, h2, h3, h4⟩
  · have : X = [] := List.eq_nil_of_length_eq_zero h0
    subst this
    exact ⟨none, 0, rfl, RwAt.nil _ _, (fun q hq => by cases hq), Nat.le_refl _, Nat.zero_le _⟩
  · refine ⟨_, cap, hv, fun j x hj => ⟨g, 0, rfl, ?_, ?_, ?_⟩, fun q hq => ?_, h1, h2⟩
    · have e := flat_at (enc := ic) (c := 3) X (fun x _ => ic_len x) j x hj 0 (.int .i64 x.i) rfl
      rw [← h4, List.getElem?_take] at e
      split at e
      · rw [cell_of_row w g _ cur _ _ hg, Nat.zero_add]
        simpa using e
      · cases e
    · have e := flat_at (enc := ic) (c := 3) X (fun x _ => ic_len x) j x hj 1 (.slice x.ha x.hn x.hc) rfl
      rw [← h4, List.getElem?_take] at e
      split at e
      · rw [cell_of_row w g _ cur _ _ hg, Nat.zero_add]
        simpa using e
      · cases e
    · have e := flat_at (enc := ic) (c := 3) X (fun x _ => ic_len x) j x hj 2 (.slice x.qa x.qn x.qc) rfl
      rw [← h4, List.getElem?_take] at e
      split at e
      · rw [cell_of_row w g _ cur _ _ hg, Nat.zero_add]
        simpa using e
      · cases e
    · cases hq; exact hb
theorem OwnIt.lower {w : World} {base base' : Nat} {v : Value} {X : List Rw} (h : OwnIt w base v X) (hb : base' ≤ base) : OwnIt w base' v X := by
  refine ⟨h.1, ?_⟩
  rcases h.2 with e | ⟨g, cap, cur, hv, hg, r⟩
  · exact .inl e
  · exact .inr ⟨g, cap, cur, hv, Nat.le_trans hb hg, r⟩
/-- An item laid over another one. -/
theorem OwnIt.set {w : World} {base g n c : Nat} {X : List Rw} (h : OwnIt w base (.slice (some ⟨g, 0, none⟩) n c) X) (k : Nat) (hk : k < X.length) (x : Rw) :
    OwnIt (w.setCells g (k * 3) (ic x)) base (.slice (some ⟨g, 0, none⟩) n c) (X.set k x) := by
  rcases h.2 with ⟨e, _⟩ | ⟨g', cap, cur, hv, hg, hh, h1, h2, h3, h4⟩
  · cases e
  · injection hv with e1 e2 e3
    have eg : g = g' := by injection e1 with e1; injection e1
    subst eg; subst e2; subst e3
    have hfit : k * 3 + (ic x).length ≤ cur.size := by rw [ic_len, h3]; omega
    rw [setCells_eq_setRow Try.prog w g (k * 3) cur _ (ic x) hh hfit (ic_one x)]
    refine ⟨by rw [rw_len], .inr ⟨g, c, _, by rw [List.length_set], hg, setRow_heap w g cur _ _ _ hh, by rw [List.length_set]; exact h1, h2, ?_, ?_⟩⟩
    · rw [List.size_toArray, List.length_append, List.length_append, List.length_take, List.length_drop, Array.length_toList]
      omega
    · have e := flat_set (enc := ic) (c := 3) X (fun x _ => ic_len x) k x hk (ic_len x)
      rw [e, ← h4, List.length_set]
      have l0 : cur.toList.length = c * 3 := by rw [Array.length_toList, h3]
      have s2 : (ic x).length = 3 := rfl
      show List.take _ (List.take (k * 3) cur.toList ++ ic x ++ List.drop (k * 3 + (ic x).length) cur.toList) = _
      rw [s2, List.take_take, Nat.min_eq_left (by omega), List.take_append, List.take_of_length_le (by rw [List.length_append, List.length_take, s2]; omega), List.drop_take]
      congr 2
      rw [List.length_append, List.length_take, s2]
      omega
theorem OwnIt.grows {w' : World} {base : Nat} {v' : Value} {X : List Rw} {x : Rw} (h : w'.ownsRow base 66 3 v' (X.length + 1) (X.flatMap ic ++ ic x)) : OwnIt w' base v' (X ++ [x]) := by
  unfold OwnIt
  rw [List.length_append, List.flatMap_append]
  simpa using h
theorem OwnIt.growsMany {w' : World} {base n : Nat} {v' : Value} {X Y : List Rw} (h : w'.ownsRow base 66 3 v' n (X.flatMap ic ++ Y.flatMap ic)) (hn : n = X.length + Y.length) : OwnIt w' base v' (X ++ Y) := by
  unfold OwnIt
  rw [List.length_append, List.flatMap_append, ← hn]
  exact h
theorem own_rw {w : World} {base : Nat} {a : Option Addr} {n c : Nat} {X : List Rw} (h : OwnIt w base (.slice a n c) X) : RwAt w a X := by
  obtain ⟨a', c', e, hp, _⟩ := h.at_
  have ea : a = a' := by injection e
  rw [ea]; exact hp
theorem own_rwcap {w : World} {base : Nat} {a : Option Addr} {n c : Nat} {X : List Rw} (h : OwnIt w base (.slice a n c) X) : X.length ≤ c ∧ c ≤ maxLen := by
  obtain ⟨a', c', e, _, _, h1, h2⟩ := h.at_
  have ec : c = c' := by injection e
  rw [ec]; exact ⟨h1, h2⟩
theorem own_rwlen {w : World} {base : Nat} {a : Option Addr} {n c : Nat} {X : List Rw} (h : OwnIt w base (.slice a n c) X) : n = X.length := by
  obtain ⟨a', c', e, _⟩ := h.at_
  injection e
theorem OwnIt.fz {w : World} {base g n c : Nat} {X : List Rw} (h : OwnIt w base (.slice (some ⟨g, 0, none⟩) n c) X) (i : Nat) : w.frozen? ⟨g, i, none⟩ = false := by
  rcases h.2 with ⟨e, _⟩ | ⟨g', cap, cur, hv, hg, hh, r⟩
  · cases e
  · injection hv with e1 e2 e3
    have eg : g = g' := by injection e1 with e1; injection e1
    subst eg
    simp [World.frozen?, hh]
theorem OwnIt.cells {w : World} {base g n c : Nat} {X : List Rw} (h : OwnIt w base (.slice (some ⟨g, 0, none⟩) n c) X) {k : Nat} {x : Rw} (hx : X[k]? = some x) :
    w.cell? ⟨g, k * 3, none⟩ = some (.int .i64 x.i) ∧ w.cell? ⟨g, k * 3 + 1, none⟩ = some (.slice x.ha x.hn x.hc) ∧ w.cell? ⟨g, k * 3 + 2, none⟩ = some (.slice x.qa x.qn x.qc) := by
  obtain ⟨b, o, ea, d1, d2, d3⟩ := own_rw h k x hx
  rcases h.2 with ⟨e', _⟩ | ⟨g', cap, cur, hv, hg, hh, r⟩
  · cases e'
  · injection ea with ea
    injection ea with e1 e2
    subst e1; subst e2
    rw [Nat.zero_add] at d1 d2 d3
    exact ⟨d1, d2, d3⟩
theorem OwnIt.ge {w : World} {base g n c : Nat} {X : List Rw} (h : OwnIt w base (.slice (some ⟨g, 0, none⟩) n c) X) : base ≤ g ∧ g < w.heap.size := h.lt g rfl
theorem OwnIt.some {w : World} {base : Nat} {v : Value} {X : List Rw} (h : OwnIt w base v X) (hp : 0 < X.length) : ∃ g c, v = .slice (some ⟨g, 0, none⟩) X.length c ∧ X.length ≤ c := by
  rcases h.2 with ⟨_, h0⟩ | ⟨g, cap, cur, hv, _, _, h1, _⟩
  · omega
  · exact ⟨g, cap, hv, h1⟩

/-- What a raw item means. -/
structure Means (w : World) (base : Nat) (x : Rw) (y : Lk.It) : Prop where
  i : x.i = y.i
  h : LsIn w base x.vh y.h
  q : LsIn w base x.vq y.q
theorem Means.below {w w' : World} {base : Nat} {x : Rw} {y : Lk.It} (h : Means w base x y) (hb : Below w.heap.size w w') : Means w' base x y := ⟨h.i, h.h.below hb, h.q.below hb⟩
theorem Means.lower {w : World} {base base' : Nat} {x : Rw} {y : Lk.It} (h : Means w base x y) (hb : base' ≤ base) : Means w base' x y := ⟨h.i, h.h.lower hb, h.q.lower hb⟩
theorem LsIn.raw {w : World} {base : Nat} {v : Value} {L : List Lk.Lo} (h : LsIn w base v L) : ∃ a c, v = .slice a L.length c := by
  obtain ⟨a, c, e, _⟩ := h
  exact ⟨a, c, e⟩
/-- A row of items means a table. -/
structure TbIn (w : World) (base : Nat) (v : Value) (T : List Lk.It) : Prop where
  row : ∃ P : List Rw, OwnIt w base v P ∧ P.length = T.length ∧ ∀ (j : Nat) (x : Rw) (y : Lk.It), P[j]? = some x → T[j]? = some y → Means w base x y
theorem TbIn.nil (w : World) (base : Nat) : TbIn w base (.slice none 0 0) [] := ⟨[], OwnIt.nil _ _, rfl, fun j x y h => by simp at h⟩
theorem TbIn.below {w w' : World} {base : Nat} {v : Value} {T : List Lk.It} (h : TbIn w base v T) (hb : Below w.heap.size w w') : TbIn w' base v T := by
  obtain ⟨P, h1, h2, h3⟩ := h.row
  exact ⟨P, h1.below hb, h2, fun j x y hx hy => (h3 j x y hx hy).below hb⟩
theorem TbIn.lower {w : World} {base base' : Nat} {v : Value} {T : List Lk.It} (h : TbIn w base v T) (hb : base' ≤ base) : TbIn w base' v T := by
  obtain ⟨P, h1, h2, h3⟩ := h.row
  exact ⟨P, h1.lower hb, h2, fun j x y hx hy => (h3 j x y hx hy).lower hb⟩
theorem TbIn.at_ {w : World} {base : Nat} {v : Value} {T : List Lk.It} (h : TbIn w base v T) : ∃ a c, v = .slice a T.length c ∧ TbAt w a T ∧ T.length ≤ c ∧ c ≤ maxLen := by
  obtain ⟨P, h1, h2, h3⟩ := h.row
  obtain ⟨a, c, e, hp, _, h4, h5⟩ := h1.at_
  rw [h2] at e h4
  refine ⟨a, c, e, fun j y hy => ?_, h4, h5⟩
  obtain ⟨x, hx⟩ : ∃ x, P[j]? = some x := ⟨_, List.getElem?_eq_getElem (by rw [h2]; exact (List.getElem?_eq_some_iff.1 hy).1)⟩
  obtain ⟨b, o, ea, d1, d2, d3⟩ := hp j x hx
  have m := h3 j x y hx hy
  exact ⟨b, o, x.vh, x.vq, ea, by rw [d1, m.i], d2, d3, m.h.ls, m.q.ls⟩
/-- One more item behind. -/
theorem TbIn.snoc {w : World} {base : Nat} {v : Value} {T : List Lk.It} {P : List Rw} {x : Rw} {y : Lk.It} (h1 : OwnIt w base v (P ++ [x])) (h2 : P.length = T.length) (h3 : ∀ (j : Nat) (x : Rw) (y : Lk.It), P[j]? = some x → T[j]? = some y → Means w base x y) (hm : Means w base x y) : TbIn w base v (T ++ [y]) := by
  refine ⟨P ++ [x], h1, by simp [h2], fun j a b ha hb => ?_⟩
  rcases Nat.lt_trichotomy j P.length with hj | hj | hj
  · rw [List.getElem?_append_left hj] at ha
    rw [List.getElem?_append_left (by omega)] at hb
    exact h3 j a b ha hb
  · rw [List.getElem?_append_right (by omega), hj, Nat.sub_self] at ha
    rw [List.getElem?_append_right (by omega), hj, h2, Nat.sub_self] at hb
    cases ha; cases hb
    exact hm
  · rw [List.getElem?_eq_none (by simp; omega)] at ha
    cases ha
end Go.Proofs.Ytjoaedkgjnchoan.PLock
