/- What the parts of quirlaw.BuddySays' walk share: how it stands behind the calls; the test of it; what is the same. -/
import Derived.Test.YtodimkkgmidgcabBuddySame
import Derived.Test.YtodimkkgmidgcabBuddyCat
import Derived.Test.YtodimkkgmidgcabBuddyRefErr
import Derived.Test.YtodimkkgmidgcabBuddyRefFree
import Derived.Deep.CutRange
namespace Go.Proofs.Ytodimkkgmidgcab.PBuddy
open Go Go.RowKit PPool
set_option maxRecDepth 100000

theorem says1_any (w : World) (x : Bd.Bk) (q : Addr) (at_ : Int) (h : w.cell? q = some (.int .i64 at_)) :
    Calls Try.prog 13 #[.agg #[.int .i64 x.a, .int .i64 x.o], .pointer (some q)] w fun e w' => e = .returned (.bool (decide (x.a = at_))) ∧ Below w.heap.size w w' := by
  obtain ⟨a, o⟩ := x
  have h' := keep1 (bx w (.cells #[.int .i64 a, .int .i64 o] 37)) h
  simp only
  have e : decide (a = at_) = (a == at_) := rfl
  rw [e]
  obtain ⟨Y, hY⟩ : ∃ Y, Y = (a == at_) := ⟨_, rfl⟩
  rw [← hY]
  cases Y with
  | true =>
    have hY' := hY.symm
    clear hY e
    go_enter Try.func13, Try.ntmps13
    go_wp2_with fail
    go_ret
    exact ⟨rfl, bx _ _⟩
  | false =>
    have hY' := hY.symm
    clear hY e
    go_enter Try.func13, Try.ntmps13
    go_wp2_with fail
    go_ret
    exact ⟨rfl, bx _ _⟩
theorem same_true (w : World) (N M : Int) (a1 a2 : Option Addr) (c1 c2 : Nat) (l1 l2 : List Bd.Bk) (hN : N = M) (hl : l1 = l2) (h1 : PgAt w a1 l1) (h2 : PgAt w a2 l2) (hb : l1.length ≤ 140737488355328) :
    Calls Try.prog 9 #[.agg #[.int .i64 N, .slice a1 l1.length c1], .agg #[.int .i64 M, .slice a2 l2.length c2]] w fun e w' => e = .returned (.bool true) ∧ Below w.heap.size w w' := by
  have := same_any w N M a1 a2 c1 c2 l1 l2 h1 h2 (by omega) (by rw [← hl]; omega)
  rw [decide_eq_true hN, decide_eq_true hl, Bool.and_self] at this
  exact this

/-- How it stands behind the calls: the room's box, the number's, the answers of Take and Drop in boxes, an empty room in one. -/
structure St (w W : World) (N : Int) (a : Option Addr) (c : Nat) (X : List Bd.Bk) (z : Int) (xb : Nat) (P0 : Int) (xa : Option Addr) (xc : Nat) (P1 : List Bd.Bk) (yb : Nat) (D0 : Int) (ya : Option Addr) (yc : Nat) (D1 : List Bd.Bk) (nb : Nat) : Prop where
  old : Below w.heap.size w W
  c0 : W.cell? ⟨w.heap.size, 0, none⟩ = some (.int .i64 N)
  c1 : W.cell? ⟨w.heap.size, 1, none⟩ = some (.slice a X.length c)
  c5 : W.cell? ⟨w.heap.size + 1, 0, none⟩ = some (.int .i64 z)
  x0 : W.cell? ⟨xb, 0, none⟩ = some (.int .i64 P0)
  x1 : W.cell? ⟨xb, 1, none⟩ = some (.slice xa P1.length xc)
  y0 : W.cell? ⟨yb, 0, none⟩ = some (.int .i64 D0)
  y1 : W.cell? ⟨yb, 1, none⟩ = some (.slice ya D1.length yc)
  n0 : W.cell? ⟨nb, 0, none⟩ = some (.int .i64 0)
  n1 : W.cell? ⟨nb, 1, none⟩ = some (.slice none 0 0)
  pa : PgAt W a X
  px : PgAt W xa P1
  py : PgAt W ya D1
theorem St.keep {w W W' : World} {N : Int} {a : Option Addr} {c : Nat} {X : List Bd.Bk} {z : Int} {xb : Nat} {P0 : Int} {xa : Option Addr} {xc : Nat} {P1 : List Bd.Bk} {yb : Nat} {D0 : Int} {ya : Option Addr} {yc : Nat} {D1 : List Bd.Bk} {nb : Nat} (h : St w W N a c X z xb P0 xa xc P1 yb D0 ya yc D1 nb) (hb : Below W.heap.size W W') : St w W' N a c X z xb P0 xa xc P1 yb D0 ya yc D1 nb :=
  ⟨below_tr h.old hb, keep1 hb h.c0, keep1 hb h.c1, keep1 hb h.c5, keep1 hb h.x0, keep1 hb h.x1, keep1 hb h.y0, keep1 hb h.y1, keep1 hb h.n0, keep1 hb h.n1, h.pa.below hb, h.px.below hb, h.py.below hb⟩

theorem slice_mid (W : World) (g o n c k : Nat) (hk : k ≤ n) : (Instr.slice 22 (.slice (some ⟨g, o, none⟩) n c) (some (.int .i64 (k : Int))) none none).run Try.prog W = .ok (.slice (if c = k then some ⟨g, o, none⟩ else some ⟨g, o + k * 2, none⟩) (n - k) (c - k)) W := by
  have u := Try.underlying22
  have z := Try.sizeOf37
  go_simp
theorem slice_front (W : World) (g o n c k : Nat) (hk : k ≤ c) : (Instr.slice 22 (.slice (some ⟨g, o, none⟩) n c) none (some (.int .i64 (k : Int))) none).run Try.prog W = .ok (.slice (some ⟨g, o, none⟩) k c) W := by
  have u := Try.underlying22
  have z := Try.sizeOf37
  have k0 : (k : Int) ≤ (c : Int) := by omega
  go_simp
/-- The two parts of a list around a place. -/
theorem parts (b o n c s : Nat) (X : List Bd.Bk) (hn : X.length = n) (hs : s < n) (hc : n ≤ c) : ∃ A : Addr, (∀ W, (Instr.slice 22 (.slice (some ⟨b, o, none⟩) n c) none (some (.int .i64 (s : Int))) none).run Try.prog W = .ok (.slice (some ⟨b, o, none⟩) (X.take s).length c) W) ∧
    (∀ W, (Instr.slice 22 (.slice (some ⟨b, o, none⟩) n c) (some (.int .i64 ((s : Int) + 1))) none none).run Try.prog W = .ok (.slice (some A) (X.drop (s + 1)).length (c - (s + 1))) W) ∧ ∀ W, PgAt W (some ⟨b, o, none⟩) X → PgAt W (some ⟨b, o, none⟩) (X.take s) ∧ PgAt W (some A) (X.drop (s + 1)) := by
  have e1 : (X.take s).length = s := by rw [List.length_take]; omega
  have e2 : (X.drop (s + 1)).length = n - (s + 1) := by rw [List.length_drop]; omega
  have e3 : ((s + 1 : Nat) : Int) = (s : Int) + 1 := by omega
  by_cases h : c = s + 1
  · refine ⟨⟨b, o, none⟩, fun W => by rw [e1]; exact slice_front W b o n c s (by omega), fun W => ?_, fun W hW => ⟨hW.take s, ?_⟩⟩
    · have := slice_mid W b o n c (s + 1) (by omega)
      rw [if_pos h, e3] at this
      rw [e2]
      exact this
    · rw [List.drop_of_length_le (by omega)]
      exact PgAt.nil _ _
  · refine ⟨⟨b, o + (s + 1) * 2, none⟩, fun W => by rw [e1]; exact slice_front W b o n c s (by omega), fun W => ?_, fun W hW => ⟨hW.take s, hW.drop (s + 1)⟩⟩
    have := slice_mid W b o n c (s + 1) (by omega)
    rw [if_neg h, e3] at this
    rw [e2]
    exact this

/-- What stands behind the making of the room that is wanted. -/
structure Fin (W0 W : World) (N : Int) (ab : Nat) (a5 : Option Addr) (c5 : Nat) (R : List Bd.Bk) : Prop where
  below : Below W0.heap.size W0 W
  i0 : W.cell? ⟨ab, 0, none⟩ = some (.int .i64 N)
  i1 : W.cell? ⟨ab, 1, none⟩ = some (.slice a5 R.length c5)
  pg : PgAt W a5 R
theorem Fin.late {W0 w5 : World} {N : Int} {a5 : Option Addr} {c5 : Nat} {R : List Bd.Bk} (hb : Below W0.heap.size W0 w5) (hp : PgAt w5 a5 R) : Fin W0 (w5.alloc (.cells #[.int .i64 N, .slice a5 R.length c5] 24)) N w5.heap.size a5 c5 R :=
  ⟨below_tr hb (bx _ _), (now2 _ _ _ _).1, (now2 _ _ _ _).2, hp.below (bx _ _)⟩
theorem Fin.early {W0 w5 : World} {N : Int} {ab base : Nat} {a5 : Option Addr} {c5 : Nat} {R : List Bd.Bk} {x y : Value} {T : TypeId} (hb : Below W0.heap.size W0 w5) (ho : OwnPg w5 base (.slice a5 R.length c5) R) (hA : w5.heap[ab]? = some (.cells #[x, y] T (0, 0))) (hge : W0.heap.size ≤ ab) (hne : (Value.slice a5 R.length c5).ownBlock ≠ some ab) :
    Fin W0 ((w5.setCell ⟨ab, 0, none⟩ (.int .i64 N)).setCell ⟨ab, 1, none⟩ (.slice a5 R.length c5)) N ab a5 c5 R := by
  have hr := res2 hA (.int .i64 N) (.slice a5 R.length c5)
  refine ⟨Below.two hb hge _ _ _ _, hr.1, hr.2, own_pg (ho.keep fun q hq => ?_)⟩
  have hqa : q ≠ ab := fun e => hne (by rw [← e]; exact hq)
  rw [Below.heap_setCell _ _ _ _ hqa, Below.heap_setCell _ _ _ _ hqa]
theorem early_of {Wi w5 : World} {ab : Nat} {v1 v5 : Value} {o : Obj} (hA : Wi.heap[ab]? = some o) (hg : Goes (ownB v1) Wi w5 (ownB v5)) (hn : v1.ownBlock ≠ some ab) : w5.heap[ab]? = some o ∧ v5.ownBlock ≠ some ab := by
  have hl := lt_of_heap hA
  refine ⟨(hg.block ab hl hn).trans hA, fun e => ?_⟩
  rcases hg.grow ab e with h | h
  · exact hn h
  · omega
theorem cells_of {w5 : World} {ab : Nat} {x y : Value} {T : TypeId} (hA : w5.heap[ab]? = some (.cells #[x, y] T (0, 0))) : w5.cell? ⟨ab, 0, none⟩ = some x ∧ w5.cell? ⟨ab, 1, none⟩ = some y ∧ w5.frozen? ⟨ab, 0, none⟩ = false ∧ w5.frozen? ⟨ab, 1, none⟩ = false :=
  ⟨by rw [cell_of_row w5 _ _ _ _ _ hA]; rfl, by rw [cell_of_row w5 _ _ _ _ _ hA]; rfl, fz_of hA 0, fz_of hA 1⟩

end Go.Proofs.Ytodimkkgmidgcab.PBuddy
