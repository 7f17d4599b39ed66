/- What the parts of quirlaw.LeafSays' walk share: boxes, how it stands behind the calls, the page that is wanted; a tail of the function's own text. -/
import Derived.Test.YtiaddijibaclkaaLeafDrop
import Derived.Test.YtiaddijibaclkaaLeafFree
import Derived.Test.YtiaddijibaclkaaLeafSame
import Derived.Test.YtiaddijibaclkaaLeafRefReadW
import Derived.Test.YtiaddijibaclkaaLeafIndex
import Derived.Deep.CutRange
namespace Go.Proofs.Ytiaddijibaclkaa.PLeaf
open Go Go.RowKit
set_option maxRecDepth 100000

/-- A box with one value. -/
def Bxd (W : World) (b : Nat) (v : Value) : Prop := W.heap[b]? = some (.cells #[v] 73 (0, 0))
theorem Bxd.cell {W : World} {b : Nat} {v : Value} (h : Bxd W b v) : W.cell? ⟨b, 0, none⟩ = some v := by rw [cell_of_row W _ _ _ _ _ h]; rfl
theorem Bxd.fz {W : World} {b : Nat} {v : Value} (h : Bxd W b v) : W.frozen? ⟨b, 0, none⟩ = false := by unfold Bxd at h; simp [World.frozen?, h]
theorem Bxd.lt {W : World} {b : Nat} {v : Value} (h : Bxd W b v) : b < W.heap.size := lt_of_heap h
theorem Bxd.keep {W W' : World} {b : Nat} {v : Value} (h : Bxd W b v) (hb : Below W.heap.size W W') : Bxd W' b v := (hb.block b h.lt).trans h
theorem Bxd.new (W : World) (v : Value) : Bxd (W.alloc (.cells #[v] 73)) W.heap.size v := heap_alloc_new W _
theorem Bxd.set {W : World} {b : Nat} {v : Value} (h : Bxd W b v) (v' : Value) : Bxd (W.setCell ⟨b, 0, none⟩ v') b v' := by
  unfold Bxd at h ⊢
  rw [setCell_eq_setRow W b 0 _ _ _ v' h]
  exact setRow_heap W b _ _ _ _ h

/-- How it stands behind all calls: the page's box, the answers of Put and Drop in boxes, an empty page in one. -/
structure LS (w W : World) (a : Option Addr) (c : Nat) (X : List Lf.Sl) (qb rb nb : Nat) (aq : Option Addr) (cq : Nat) (Q : List Lf.Sl) (ar : Option Addr) (cr : Nat) (D : List Lf.Sl) : Prop where
  old : Below w.heap.size w W
  p : Bxd W w.heap.size (.slice a X.length c)
  q : Bxd W qb (.slice aq Q.length cq)
  r : Bxd W rb (.slice ar D.length cr)
  n : Bxd W nb (.slice none 0 0)
  inp : PgIn W a X
  qa : PgAt W aq Q
  ra : PgAt W ar D
theorem LS.keep {w W W' : World} {a : Option Addr} {c : Nat} {X : List Lf.Sl} {qb rb nb : Nat} {aq : Option Addr} {cq : Nat} {Q : List Lf.Sl} {ar : Option Addr} {cr : Nat} {D : List Lf.Sl} (h : LS w W a c X qb rb nb aq cq Q ar cr D) (hb : Below W.heap.size W W') : LS w W' a c X qb rb nb aq cq Q ar cr D :=
  ⟨below_tr h.old hb, h.p.keep hb, h.q.keep hb, h.r.keep hb, h.n.keep hb, h.inp.below hb, h.qa.below hb, h.ra.below hb⟩

theorem put_len (X : List Lf.Sl) (t : ByteArray) : (Lf.put X t).1.length ≤ 40 := by
  unfold Lf.put
  split
  · split
    · rename_i h
      exact (Lf.check_ok h).1
    · simp
  · simp
theorem drop_len (X : List Lf.Sl) (k : Int) : (Lf.drop X k).1.length ≤ 40 := by
  unfold Lf.drop
  split
  · rename_i h
    have := (Lf.check_ok (Lf.get_hit h).1).1
    have h2 := Lf.trim_len (X.set k.toNat Lf.none')
    rw [List.length_set] at h2
    show (Lf.dropX X k.toNat).length ≤ 40
    unfold Lf.dropX
    omega
  · simp
theorem read_len (s : Lf.By) : ((Lf.read s).getD []).length ≤ 40 := by
  cases h : Lf.read s with
  | none => simp
  | some X => exact (Lf.check_ok (Lf.read_only h).2).1

def rdCode : Option (List Lf.Sl) → Int
  | some _ => 0
  | none => 4
theorem RdOut.code {w : World} {R : Option (List Lf.Sl)} {e : Ending} {w' : World} (h : RdOut w R e w') : ∃ v, e = .returned (.tuple #[.agg #[v], .int .i64 (rdCode R)]) ∧ OwnPg w' w.heap.size v (R.getD []) ∧ Below w.heap.size w w' := by
  cases R <;> exact h

/-- The page that is wanted, in its box, and its row. -/
structure WantAt (w0 W : World) (bb g cp : Nat) (Y : List Lf.Sl) : Prop where
  below : Below w0.heap.size w0 W
  box : Bxd W bb (.slice (some ⟨g, 0, none⟩) Y.length cp)
  own : OwnPg W w0.heap.size (.slice (some ⟨g, 0, none⟩) Y.length cp) Y
  far : g ≠ bb
  new : w0.heap.size ≤ bb
theorem WantAt.keep {w0 W W' : World} {bb g cp : Nat} {Y : List Lf.Sl} (h : WantAt w0 W bb g cp Y) (hb : Below W.heap.size W W') : WantAt w0 W' bb g cp Y :=
  ⟨below_tr h.below hb, h.box.keep hb, h.own.below hb, h.far, h.new⟩
/-- A row laid into the box. -/
theorem WantAt.store {w0 W : World} {bb g cp n : Nat} {Y : List Lf.Sl} {v : Value} (hb : Below w0.heap.size w0 W) (hx : Bxd W bb v) (ho : OwnPg W w0.heap.size (.slice (some ⟨g, 0, none⟩) n cp) Y) (hg : g ≠ bb) (hn : w0.heap.size ≤ bb) (hl : Y.length = n) :
    WantAt w0 (W.setCell ⟨bb, 0, none⟩ (.slice (some ⟨g, 0, none⟩) n cp)) bb g cp Y := by
  subst hl
  refine ⟨hb.setCell (p := ⟨bb, 0, none⟩) hn _, hx.set _, ho.keep fun q hq => Below.heap_setCell _ _ _ _ (fun e => ?_), hg, hn⟩
  have e1 : g = q := by injection hq
  have e2 : q = bb := e
  exact hg (e1.trans e2)
/-- A slot laid into the row. -/
theorem WantAt.put {w0 W : World} {bb g cp : Nat} {Y : List Lf.Sl} (h : WantAt w0 W bb g cp Y) (k : Nat) (hk : k < Y.length) (u : Bool) (t : ByteArray) :
    WantAt w0 ((W.setCell ⟨g, k * 2, none⟩ (.bool u)).setCell ⟨g, k * 2 + 1, none⟩ (.string t)) bb g cp (Y.set k ⟨u, t⟩) := by
  have ho := h.own.put k hk u t
  have hl : (Y.set k (⟨u, t⟩ : Lf.Sl)).length = Y.length := List.length_set
  refine ⟨Below.two h.below h.own.ge.1 _ _ _ _, ?_, by rw [hl]; exact ho, h.far, h.new⟩
  rw [hl]
  show _ = _
  rw [Below.heap_setCell _ _ _ _ (fun e => h.far e.symm), Below.heap_setCell _ _ _ _ (fun e => h.far e.symm)]
  exact h.box

theorem WantAt.shorter {w0 W : World} {bb g cp q : Nat} {Y Y' : List Lf.Sl} (h : WantAt w0 W bb g cp Y) (hq : q ≤ Y.length) (hp : 0 < Y.length) (hY : Y' = Y.take q) : WantAt w0 (W.setCell ⟨bb, 0, none⟩ (.slice (some ⟨g, 0, none⟩) q cp)) bb g cp Y' := by
  subst hY
  refine WantAt.store h.below h.box (h.own.cut q hq hp) h.far h.new ?_
  rw [List.length_take]; omega

theorem own_pg2 {w : World} {base : Nat} {a : Option Addr} {n c : Nat} {X : List Lf.Sl} (h : OwnPg w base (.slice a n c) X) : PgAt w a X := by
  obtain ⟨a', c', e, hp, _⟩ := h.at_
  have ea : a = a' := by injection e
  rw [ea]; exact hp

/-- The first region of a text. -/
def headR : Code → Nat
  | .region n _ _ => n
  | .seq a _ => headR a
  | _ => 1000000
/-- A text from the statement on that opens with region n. -/
def fromR (n : Nat) : Code → Code
  | .seq a b => if headR a == n then .seq a b else fromR n b
  | c => c

end Go.Proofs.Ytiaddijibaclkaa.PLeaf
