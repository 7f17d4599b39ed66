/- How a table lies whose lists have spare memory behind them that is filled: while it is laid, while it is handed on, while it is spoilt. -/
import Derived.Test.YtjoaedkgjnchoanLockStays
import Derived.Test.YtjoaedkgjnchoanLockSpoil
import Derived.Test.YtjoaedkgjnchoanLockCloI
import Derived.Test.YtjoaedkgjnchoanLockDrp
import Derived.Test.YtjoaedkgjnchoanLockAk
namespace Go.Proofs.Ytjoaedkgjnchoan.PLock
open Go Go.RowKit PPool
set_option maxRecDepth 100000

/-- A list with two more locks behind it. -/
def AmAt (w : World) (base : Nat) (v : Value) (L : List Lk.Lo) : Prop := ∃ g c, v = .slice (some ⟨g, 0, none⟩) L.length c ∧ OwnLk w base (.slice (some ⟨g, 0, none⟩) (L.length + 2) c) (L ++ [⟨77, 0⟩, ⟨77, 0⟩])
theorem AmAt.below {w w' : World} {base : Nat} {v : Value} {L : List Lk.Lo} (h : AmAt w base v L) (hb : Below w.heap.size w w') : AmAt w' base v L := by
  obtain ⟨g, c, e, h⟩ := h
  exact ⟨g, c, e, h.below hb⟩
theorem AmAt.lower {w : World} {base base' : Nat} {v : Value} {L : List Lk.Lo} (h : AmAt w base v L) (hb : base' ≤ base) : AmAt w base' v L := by
  obtain ⟨g, c, e, h⟩ := h
  exact ⟨g, c, e, h.lower hb⟩
theorem AmAt.ls {w : World} {base : Nat} {v : Value} {L : List Lk.Lo} (h : AmAt w base v L) : LsAt w v L := by
  obtain ⟨g, c, e, h⟩ := h
  obtain ⟨h1, h2, _⟩ := Amp.front h
  exact ⟨_, _, e, h1, by omega, (own_cap h).2, fun e => by cases e⟩
theorem AmAt.keepNe {w w' : World} {base : Nat} {v : Value} {L : List Lk.Lo} (h : AmAt w base v L) {b : Nat} (hb : ¬ TyAt w b) (hk : ∀ g, g ≠ b → w'.heap[g]? = w.heap[g]?) : AmAt w' base v L := by
  obtain ⟨g, c, e, h⟩ := h
  refine ⟨g, c, e, h.keep fun q hq => hk q (fun eq => hb ?_)⟩
  have hg : g = q := Option.some.inj hq
  subst hg; subst eq
  rcases h.2 with ⟨e2, _⟩ | ⟨g2, cap, cur, e2, _, hh, _⟩
  · cases e2
  · injection e2 with e3 _ _
    have e4 : g = g2 := by injection e3 with e3; injection e3
    subst e4
    exact ⟨cur, hh⟩

theorem sets_self {A : Array Value} {i : Nat} {v : Value} (h : A[i]? = some v) : A.setIfInBounds i v = A := by
  apply Array.ext_getElem?
  intro j
  rw [Array.getElem?_setIfInBounds]
  by_cases e : i = j
  · subst e
    rw [if_pos rfl, h, if_pos (Array.getElem?_eq_some_iff.1 h).1]
  · rw [if_neg e]
/-- Two cells of an item laid over. -/
theorem it_set12 {w : World} {base g n c : Nat} {P : List Rw} (h : OwnIt w base (.slice (some ⟨g, 0, none⟩) n c) P) (k : Nat) {x : Rw} (hx : P[k]? = some x) (ha qa : Option Addr) (hn hc qn qc : Nat) :
    OwnIt ((w.setCell ⟨g, k * 3 + 1, none⟩ (.slice ha hn hc)).setCell ⟨g, k * 3 + 2, none⟩ (.slice qa qn qc)) base (.slice (some ⟨g, 0, none⟩) n c) (P.set k ⟨x.i, ha, hn, hc, qa, qn, qc⟩) := by
  have hk := (List.getElem?_eq_some_iff.1 hx).1
  have h1 := h.set k hk ⟨x.i, ha, hn, hc, qa, qn, qc⟩
  have hc0 := (h.cells hx).1
  refine h1.keep fun q hq => ?_
  have hqg : g = q := Option.some.inj hq
  subst hqg
  rcases h.2 with ⟨e, _⟩ | ⟨g', cap, cur, hv, hg, hh, l1, l2, l3, l4⟩
  · cases e
  · injection hv with e1 e2 e3
    have eg : g = g' := by injection e1 with e1; injection e1
    subst eg
    rw [cell_of_row w g _ cur _ _ hh] at hc0
    have hw3 : w.setCells g (k * 3) (ic ⟨x.i, ha, hn, hc, qa, qn, qc⟩) = ((w.setCell ⟨g, k * 3, none⟩ (.int .i64 x.i)).setCell ⟨g, k * 3 + 1, none⟩ (.slice ha hn hc)).setCell ⟨g, k * 3 + 2, none⟩ (.slice qa qn qc) := rfl
    rw [hw3]
    have e0 : w.setCell ⟨g, k * 3, none⟩ (.int .i64 x.i) = w.setRow g cur := by rw [setCell_eq_setRow w g _ cur _ _ _ hh, sets_self hc0]
    have b0 : (w.setRow g cur).heap[g]? = some (.cells cur 66 (0, 0)) := setRow_heap w g cur _ _ _ hh
    rw [e0]
    have b1 := setRow_heap (w.setRow g cur) g cur (cur.setIfInBounds (k * 3 + 1) (.slice ha hn hc)) _ _ b0
    have c1 := setRow_heap w g cur (cur.setIfInBounds (k * 3 + 1) (.slice ha hn hc)) _ _ hh
    rw [setCell_eq_setRow (w.setRow g cur) g (k * 3 + 1) cur _ _ _ b0, setCell_eq_setRow w g (k * 3 + 1) cur _ _ _ hh, setCell_eq_setRow _ g (k * 3 + 2) _ _ _ _ b1, setCell_eq_setRow _ g (k * 3 + 2) _ _ _ _ c1]
    rw [setRow_heap _ g _ _ _ _ b1, setRow_heap _ g _ _ _ _ c1]

/-- How all stands while the lists are laid. -/
structure InAt (w0 W : World) (base : Nat) (v : Value) (T : List Lk.It) (P : List Rw) (k : Nat) : Prop where
  row : OwnIt W base v P
  len : P.length = T.length
  i : ∀ (j : Nat) (x : Rw) (y : Lk.It), P[j]? = some x → T[j]? = some y → x.i = y.i
  done : ∀ (j : Nat) (x : Rw) (y : Lk.It), j < k → P[j]? = some x → T[j]? = some y → AmAt W base x.vh y.h ∧ AmAt W base x.vq y.q
  todo : ∀ (j : Nat) (x : Rw) (y : Lk.It), k ≤ j → P[j]? = some x → T[j]? = some y → LsAt w0 x.vh y.h ∧ LsAt w0 x.vq y.q
theorem InAt.below {w0 W W' : World} {base : Nat} {v : Value} {T : List Lk.It} {P : List Rw} {k : Nat} (h : InAt w0 W base v T P k) (hb : Below W.heap.size W W') : InAt w0 W' base v T P k :=
  ⟨h.row.below hb, h.len, h.i, fun j x y hj hx hy => ⟨(h.done j x y hj hx hy).1.below hb, (h.done j x y hj hx hy).2.below hb⟩, h.todo⟩
theorem it_nty {W : World} {base g n c : Nat} {P : List Rw} (h : OwnIt W base (.slice (some ⟨g, 0, none⟩) n c) P) : ¬ TyAt W g := fun ⟨cu, e⟩ => by
  obtain ⟨c1, e1⟩ := items_ty h rfl
  exact absurd (ty_ne e e1) (by decide)
theorem InAt.put {w0 W : World} {base g n c : Nat} {T : List Lk.It} {P : List Rw} {k : Nat} (h : InAt w0 W base (.slice (some ⟨g, 0, none⟩) n c) T P k) {x : Rw} {y : Lk.It} (hx : P[k]? = some x) (hy : T[k]? = some y)
    {ha qa : Option Addr} {hn hc qn qc : Nat} (h1 : AmAt W base (.slice ha hn hc) y.h) (h2 : AmAt W base (.slice qa qn qc) y.q) :
    InAt w0 ((W.setCell ⟨g, k * 3 + 1, none⟩ (.slice ha hn hc)).setCell ⟨g, k * 3 + 2, none⟩ (.slice qa qn qc)) base (.slice (some ⟨g, 0, none⟩) n c) T (P.set k ⟨x.i, ha, hn, hc, qa, qn, qc⟩) (k + 1) := by
  have hk := (List.getElem?_eq_some_iff.1 hx).1
  have nty := it_nty h.row
  have kp : ∀ q, q ≠ g → ((W.setCell ⟨g, k * 3 + 1, none⟩ (.slice ha hn hc)).setCell ⟨g, k * 3 + 2, none⟩ (.slice qa qn qc)).heap[q]? = W.heap[q]? := fun q hq => by
    rw [Below.heap_setCell _ ⟨g, k * 3 + 2, none⟩ _ _ hq, Below.heap_setCell _ ⟨g, k * 3 + 1, none⟩ _ _ hq]
  have get : ∀ (j : Nat) (z : Rw), (P.set k ⟨x.i, ha, hn, hc, qa, qn, qc⟩)[j]? = some z → (j = k ∧ z = ⟨x.i, ha, hn, hc, qa, qn, qc⟩) ∨ (j ≠ k ∧ P[j]? = some z) := fun j z hz => by
    rw [List.getElem?_set] at hz
    by_cases e : k = j
    · rw [if_pos e, if_pos hk] at hz
      exact .inl ⟨e.symm, (Option.some.inj hz).symm⟩
    · rw [if_neg e] at hz
      exact .inr ⟨fun e2 => e e2.symm, hz⟩
  refine ⟨it_set12 h.row k hx _ _ _ _ _ _, by rw [List.length_set]; exact h.len, fun j z u hz hu => ?_, fun j z u hj hz hu => ?_, fun j z u hj hz hu => ?_⟩
  · rcases get j z hz with ⟨rfl, rfl⟩ | ⟨_, hz⟩
    · exact h.i _ x u hx hu
    · exact h.i j z u hz hu
  · rcases get j z hz with ⟨rfl, rfl⟩ | ⟨hne, hz⟩
    · rw [hy] at hu
      cases hu
      exact ⟨h1.keepNe nty kp, h2.keepNe nty kp⟩
    · have := h.done j z u (by omega) hz hu
      exact ⟨this.1.keepNe nty kp, this.2.keepNe nty kp⟩
  · rcases get j z hz with ⟨rfl, rfl⟩ | ⟨hne, hz⟩
    · omega
    · exact h.todo j z u (by omega) hz hu
theorem InAt.tb {w0 W : World} {base : Nat} {v : Value} {T : List Lk.It} {P : List Rw} (h : InAt w0 W base v T P T.length) : ∃ a c, v = .slice a T.length c ∧ TbAt W a T := by
  obtain ⟨a, c, e, hp, _⟩ := h.row.at_
  rw [h.len] at e
  refine ⟨a, c, e, fun j y hy => ?_⟩
  have hj := (List.getElem?_eq_some_iff.1 hy).1
  obtain ⟨x, hx⟩ : ∃ x, P[j]? = some x := ⟨_, List.getElem?_eq_getElem (by rw [h.len]; exact hj)⟩
  obtain ⟨b, o, ea, d0, d1, d2⟩ := hp j x hx
  have hd := h.done j x y hj hx hy
  exact ⟨b, o, x.vh, x.vq, ea, by rw [d0, h.i j x y hx hy], d1, d2, hd.1.ls, hd.2.ls⟩

/-- A list that may be spoilt. -/
def SpB (W : World) (lo hi : Nat) (v : Value) : Prop := ∃ g n c, v = .slice (some ⟨g, 0, none⟩) n c ∧ lo ≤ g ∧ g < hi ∧ n ≤ c ∧ c ≤ maxLen ∧ Blk W g c
theorem Blk.same {W : World} {g n m : Nat} (h : Blk W g n) (k : Blk W g m) : n = m := by
  obtain ⟨c1, e1, s1⟩ := h
  obtain ⟨c2, e2, s2⟩ := k
  rw [e1] at e2
  injection e2 with e2
  injection e2 with e2 _ _
  subst e2
  omega
theorem Blk.ty {W : World} {g n : Nat} (h : Blk W g n) : TyAt W g := by
  obtain ⟨c, e, _⟩ := h
  exact ⟨c, e⟩
theorem SpB.spoil {W W' : World} {lo hi : Nat} {v : Value} {g c : Nat} (h : SpB W lo hi v) (hb : Blk W g c) (hg : W.grownBy W' (some g)) (hb' : Blk W' g c) : SpB W' lo hi v := by
  obtain ⟨q, n, m, e, h1, h2, h3, h4, h5⟩ := h
  refine ⟨q, n, m, e, h1, h2, h3, h4, ?_⟩
  by_cases eq : q = g
  · subst eq
    rw [Blk.same h5 hb]
    exact hb'
  · obtain ⟨cu, e1, s1⟩ := h5
    exact ⟨cu, (hg.block q (lt_of_heap e1) (fun e2 => eq (Option.some.inj e2))).trans e1, s1⟩
theorem AmAt.sp {W : World} {base : Nat} {v : Value} {L : List Lk.Lo} (h : AmAt W base v L) : SpB W base W.heap.size v := by
  obtain ⟨g, c, e, h⟩ := h
  obtain ⟨h1, h2, h3, h4⟩ := Amp.front h
  exact ⟨g, _, c, e, h4, h3, by omega, (own_cap h).2, Blk.of h⟩
theorem SpB.below {W W' : World} {lo hi : Nat} {v : Value} (h : SpB W lo hi v) (hb : Below W.heap.size W W') : SpB W' lo hi v := by
  obtain ⟨g, n, c, e, h1, h2, h3, h4, cu, e1, s1⟩ := h
  exact ⟨g, n, c, e, h1, h2, h3, h4, cu, (hb.block _ (lt_of_heap e1)).trans e1, s1⟩
/-- A table all whose blocks lie from a bound on, when a block below it turns. -/
theorem TbIn.spoil {W W' : World} {base : Nat} {v : Value} {T : List Lk.It} {g : Nat} (h : TbIn W base v T) (hlt : g < base) (hg : W.grownBy W' (some g)) : TbIn W' base v T := by
  obtain ⟨P, h1, h2, h3⟩ := h.row
  have kp : ∀ b, base ≤ b → b < W.heap.size → W'.heap[b]? = W.heap[b]? := fun b hb hl => hg.block b hl (fun e => by have := Option.some.inj e; omega)
  exact ⟨P, h1.keep (fun b hb => kp b (h1.lt b hb).1 (h1.lt b hb).2), h2, fun j x y hx hy => ⟨(h3 j x y hx hy).i, (h3 j x y hx hy).h.keep fun b hb ht => kp b hb ht.lt, (h3 j x y hx hy).q.keep fun b hb ht => kp b hb ht.lt⟩⟩
/-- The table that was handed on, while its lists are spoilt. -/
structure SpAt (W : World) (lo hi : Nat) (v : Value) (P : List Rw) : Prop where
  row : OwnIt W lo v P
  sp : ∀ (j : Nat) (x : Rw), P[j]? = some x → SpB W lo hi x.vh ∧ SpB W lo hi x.vq
theorem InAt.spAt {w0 W : World} {base : Nat} {v : Value} {T : List Lk.It} {P : List Rw} (h : InAt w0 W base v T P T.length) : SpAt W base W.heap.size v P :=
  ⟨h.row, fun j x hx => by
    obtain ⟨y, hy⟩ : ∃ y, T[j]? = some y := ⟨_, List.getElem?_eq_getElem (by rw [← h.len]; exact (List.getElem?_eq_some_iff.1 hx).1)⟩
    have := h.done j x y (List.getElem?_eq_some_iff.1 hy).1 hx hy
    exact ⟨this.1.sp, this.2.sp⟩⟩
theorem SpAt.below {W W' : World} {lo hi : Nat} {v : Value} {P : List Rw} (h : SpAt W lo hi v P) (hb : Below W.heap.size W W') : SpAt W' lo hi v P :=
  ⟨h.row.below hb, fun j x hx => ⟨(h.sp j x hx).1.below hb, (h.sp j x hx).2.below hb⟩⟩
theorem SpAt.spoil {W W' : World} {lo hi : Nat} {v : Value} {P : List Rw} {g c : Nat} (h : SpAt W lo hi v P) (hb : Blk W g c) (hg : W.grownBy W' (some g)) (hb' : Blk W' g c) : SpAt W' lo hi v P :=
  ⟨h.row.keep fun q hq => hg.block q (h.row.lt q hq).2 (fun e => by
    have e := Option.some.inj e
    subst e
    obtain ⟨c1, e1⟩ := items_ty h.row hq
    obtain ⟨c2, e2⟩ := hb.ty
    exact absurd (ty_ne e1 e2) (by decide)), fun j x hx => ⟨(h.sp j x hx).1.spoil hb hg hb', (h.sp j x hx).2.spoil hb hg hb'⟩⟩
end Go.Proofs.Ytjoaedkgjnchoan.PLock
