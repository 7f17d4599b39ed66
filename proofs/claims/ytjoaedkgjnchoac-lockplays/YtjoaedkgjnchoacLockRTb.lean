/- The reference's tables: a row of items of its own, whose lists lie where they lay, or in blocks of locks of its own; how one item is put behind. -/
import Derived.Test.YtjoaedkgjnchoacLockRAs
import Derived.Test.YtjoaedkgjnchoacLockWi
namespace Go.Proofs.Ytjoaedkgjnchoac.PLock
open Go Go.RowKit PPool
set_option maxRecDepth 100000

/-- A list that lay there, or lies in blocks of locks made since. -/
def LsW (w W : World) (v : Value) (L : List Lk.Lo) : Prop := LsAt w v L ∨ LsIn W w.heap.size v L
theorem LsW.ls {w W : World} {v : Value} {L : List Lk.Lo} (h : LsW w W v L) (hb : Below w.heap.size w W) : LsAt W v L := by
  rcases h with h | h
  · exact h.below hb
  · exact h.ls
theorem LsW.below {w W W' : World} {v : Value} {L : List Lk.Lo} (h : LsW w W v L) (hb : Below W.heap.size W W') : LsW w W' v L := by
  rcases h with h | h
  · exact .inl h
  · exact .inr (h.below hb)
theorem LsW.grown {w W W' : World} {v V : Value} {L : List Lk.Lo} {base : Nat} {P : List Rw} (h : LsW w W v L) (k : OwnIt W base V P) (hg : W.grownBy W' V.ownBlock) : LsW w W' v L := by
  rcases h with h | h
  · exact .inl h
  · exact .inr (h.grown hg fun b hb ⟨cu, e⟩ => by obtain ⟨c2, e2⟩ := items_ty k hb; exact absurd (ty_ne e e2) (by decide))
theorem LsW.raw {w W : World} {v : Value} {L : List Lk.Lo} (h : LsW w W v L) : ∃ a c, v = .slice a L.length c := by
  rcases h with ⟨a, c, e, _⟩ | ⟨a, c, e, _⟩ <;> exact ⟨a, c, e⟩
theorem LsW.same {w W w' : World} {v v' : Value} {L L' : List Lk.Lo} (h : LsW w W v L) (hb : Below w.heap.size w W) (ho : OrOwn W w' v v' L L') (hb' : Below W.heap.size W w') : LsW w w' v' L' := by
  rcases ho with ⟨rfl, rfl⟩ | ho
  · exact h.below hb'
  · exact .inr ((OwnLk.lsIn ho).lower hb.size)
theorem LsW.same2 {w W w' : World} {v v' : Value} {L L' : List Lk.Lo} {base : Nat} (h : LsW w W v L) (ho : (v' = v ∧ L' = L) ∨ OwnLk w' base v' L') (hbase : w.heap.size ≤ base) (hb' : Below W.heap.size W w') : LsW w w' v' L' := by
  rcases ho with ⟨rfl, rfl⟩ | ho
  · exact h.below hb'
  · exact .inr ((OwnLk.lsIn ho).lower hbase)
/-- What a raw item means. -/
structure MeansW (w W : World) (x : Rw) (y : Lk.It) : Prop where
  i : x.i = y.i
  h : LsW w W x.vh y.h
  q : LsW w W x.vq y.q
/-- A table of the reference. -/
structure TbW (w W : World) (v : Value) (T : List Lk.It) : Prop where
  bel : Below w.heap.size w W
  row : ∃ P : List Rw, OwnIt W w.heap.size v P ∧ P.length = T.length ∧ ∀ (j : Nat) (x : Rw) (y : Lk.It), P[j]? = some x → T[j]? = some y → MeansW w W x y
theorem TbW.nil {w W : World} (hb : Below w.heap.size w W) : TbW w W (.slice none 0 0) [] := ⟨hb, [], OwnIt.nil _ _, rfl, fun j x y h => by simp at h⟩
theorem TbW.own_lt {w W : World} {v : Value} {T : List Lk.It} (h : TbW w W v T) : ∀ g, v.ownBlock = some g → g < W.heap.size := fun g hg => by
  obtain ⟨P, h1, _⟩ := h.row
  exact (h1.lt g hg).2
theorem TbW.below {w W W' : World} {v : Value} {T : List Lk.It} (h : TbW w W v T) (hb : Below W.heap.size W W') : TbW w W' v T := by
  obtain ⟨P, h1, h2, h3⟩ := h.row
  exact ⟨below_tr h.bel hb, P, h1.below hb, h2, fun j x y hx hy => ⟨(h3 j x y hx hy).i, (h3 j x y hx hy).h.below hb, (h3 j x y hx hy).q.below hb⟩⟩
theorem TbW.at_ {w W : World} {v : Value} {T : List Lk.It} (h : TbW w W v T) : ∃ a c, v = .slice a T.length c ∧ TbAt W a T ∧ T.length ≤ c ∧ c ≤ maxLen := by
  obtain ⟨P, h1, h2, h3⟩ := h.row
  obtain ⟨a, c, e, hp, _, h4, h5⟩ := h1.at_
  rw [h2] at e h4
  refine ⟨a, c, e, fun j y hy => ?_, h4, h5⟩
  obtain ⟨x, hx⟩ : ∃ x, P[j]? = some x := ⟨_, List.getElem?_eq_getElem (by rw [h2]; exact (List.getElem?_eq_some_iff.1 hy).1)⟩
  obtain ⟨b, o, ea, d1, d2, d3⟩ := hp j x hx
  have m := h3 j x y hx hy
  exact ⟨b, o, x.vh, x.vq, ea, by rw [d1, m.i], d2, d3, m.h.ls h.bel, m.q.ls h.bel⟩

/-- append of one item that was laid new. -/
theorem wpList_app1_tb {ops : Array Oper} {rest : List Oper} {o : Oper} {a : Act} {w W : World} {Q : Exit → Act → World → Prop} (hgd : o.guard = none) (s x : Operand)
    (ho : o.op = .call { callee := .builtin .append, args := #[s, x], argTypes := #[30, 30] })
    (v : Value) (T : List Lk.It) (hs : a.eval s = v) (ht : TbW w W v T) (xb : Nat) (z : Rw) (y : Lk.It) (hx : a.eval x = .slice (some ⟨xb, 0, none⟩) 1 1) (hX : ROne W xb z) (hm : MeansW w W z y) (h63 : T.length ≤ 2000)
    (h : ∀ a' n' c' w', TbW w w' (.slice a' n' c') (T ++ [y]) → W.grownBy w' v.ownBlock → wpList Try.prog ops Q rest (a.put o.dst (.slice a' n' c')) w') : wpList Try.prog ops Q (o :: rest) a W := by
  obtain ⟨i0, hi, hz0, hz1, hz2⟩ := info_parts item_info
  obtain ⟨P, h1, h2, h3⟩ := ht.row
  refine wpList_append_own W hgd s x 30 ho w.heap.size 57 i0 (.agg #[.int .i64 0, .slice none 0 0, .slice none 0 0]) 3 56 Try.underlying30 hi hz0 hz1 hz2 rfl (by decide) v P.length (P.flatMap ic) hs h1 ⟨xb, 0, none⟩ 1 1 (ic z) hx rfl ?_ (ic_one z) (by unfold maxLen; omega) (by omega) ht.bel.size ?_
  · intro j u hj
    exact hX.at_.flat j u (by simpa using hj)
  · intro v' w' ho' hg' _
    have h1' : OwnIt w' w.heap.size v' (P ++ [z]) := OwnIt.grows ho'
    obtain ⟨a', c', e', _⟩ := h1'.at_
    subst e'
    refine h _ _ _ w' ⟨ht.bel.grown hg' ht.bel.size (fun g hg => (h1.lt g hg).1), P ++ [z], h1', by simp [h2], fun j x' y' hx' hy' => ?_⟩ hg'
    rcases Nat.lt_trichotomy j P.length with hj | hj | hj
    · rw [List.getElem?_append_left hj] at hx'
      rw [List.getElem?_append_left (by omega)] at hy'
      have m := h3 j x' y' hx' hy'
      exact ⟨m.i, m.h.grown h1 hg', m.q.grown h1 hg'⟩
    · rw [List.getElem?_append_right (by omega), hj, Nat.sub_self] at hx'
      rw [List.getElem?_append_right (by omega), hj, h2, Nat.sub_self] at hy'
      cases hx'; cases hy'
      exact ⟨hm.i, hm.h.grown h1 hg', hm.q.grown h1 hg'⟩
    · rw [List.getElem?_eq_none (by simp; omega)] at hx'
      cases hx'
theorem rone1 (W : World) (z : Rw) : ROne (W.alloc (.cells #[.int .i64 z.i, .slice z.ha z.hn z.hc, .slice z.qa z.qn z.qc] 57)) W.heap.size z := heap_alloc_new W _
theorem rone2 (W : World) (o : Obj) (z : Rw) : ROne ((W.alloc o).alloc (.cells #[.int .i64 z.i, .slice z.ha z.hn z.hc, .slice z.qa z.qn z.qc] 57)) (W.heap.size + 1) z := by
  have := heap_alloc_new (W.alloc o) (.cells #[.int .i64 z.i, .slice z.ha z.hn z.hc, .slice z.qa z.qn z.qc] 57)
  rwa [World.size_alloc] at this
theorem rone3 (W : World) (o o' : Obj) (z : Rw) : ROne (((W.alloc o).alloc o').alloc (.cells #[.int .i64 z.i, .slice z.ha z.hn z.hc, .slice z.qa z.qn z.qc] 57)) (W.heap.size + 1 + 1) z := by
  have := heap_alloc_new ((W.alloc o).alloc o') (.cells #[.int .i64 z.i, .slice z.ha z.hn z.hc, .slice z.qa z.qn z.qc] 57)
  rwa [World.size_alloc, World.size_alloc] at this
theorem TbW.cell {w W w' : World} {v : Value} {T : List Lk.It} (_h : TbW w W v T) (hg : W.grownBy w' v.ownBlock) {q : Addr} {u : Value} (hq : W.cell? q = some u) (hn : v.ownBlock ≠ some q.block) : w'.cell? q = some u :=
  (World.cell?_of_block (hg.block _ (World.block_lt_of_cell? W _ hq) (fun e => hn e.symm))).trans hq
end Go.Proofs.Ytjoaedkgjnchoac.PLock
