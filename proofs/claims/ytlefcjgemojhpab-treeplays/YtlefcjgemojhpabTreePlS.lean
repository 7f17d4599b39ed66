/- How TreePlays stands between its calls: the tree, the row of keys in its box, the map of texts in its box, the result's box; what each call leaves of it. -/
import Derived.Test.YtlefcjgemojhpabTreeTx
import Derived.Test.YtlefcjgemojhpabTreeIIns
import Derived.Test.YtlefcjgemojhpabTreeIBin
import Derived.Maps.OwnIn
import Derived.RangeFuncBox
import Derived.RangeFuncNested
namespace Go.Proofs.Ytlefcjgemojhpab.PTree
open Go Go.RowKit PPool
set_option maxRecDepth 100000
/-- b0: where the call began. RB, KB, TB: the boxes of the result, the keys, the texts. MB: the map. -/
structure St (w wr : World) (t RB KB TB MB n : Nat) (o : Lab) (Lt : List En) (v : Value) (K : List Int) (Lx : List En) : Prop where
  tree : TreeAt wr t o Lt
  keys : TI.OwnPg wr w.heap.size v K
  rb : Boxed wr RB 4 (.bool false)
  kb : Boxed wr KB 47 v
  tb : Boxed wr TB 48 (.map (some MB))
  tx : TxAt wr MB n Lx
  apart : ∀ q, o q ≠ none → q ≠ RB ∧ q ≠ KB ∧ q ≠ TB ∧ q ≠ MB ∧ v.ownBlock ≠ some q
  own : ∀ g, v.ownBlock = some g → g ≠ RB ∧ g ≠ KB ∧ g ≠ TB ∧ g ≠ MB
  low : ∀ q, o q ≠ none → w.heap.size ≤ q
  nos : w.heap.size ≤ RB ∧ w.heap.size ≤ KB ∧ w.heap.size ≤ TB ∧ w.heap.size ≤ MB ∧ RB ≠ KB ∧ RB ≠ TB ∧ KB ≠ TB ∧ RB ≠ MB ∧ KB ≠ MB ∧ TB ≠ MB
  below : Below w.heap.size w wr
theorem boxed_of {W W' : World} {B : Nat} {t : TypeId} {v : Value} (h : Boxed W B t v) (e : W'.heap[B]? = W.heap[B]?) : Boxed W' B t v := e.trans h
section
variable {w wr w' : World} {t RB KB TB MB n : Nat} {o : Lab} {Lt : List En} {v : Value} {K : List Int} {Lx : List En}
/-- A call that writes nothing that was there. -/
theorem St.next (h : St w wr t RB KB TB MB n o Lt v K Lx) (hb : Below wr.heap.size wr w') : St w w' t RB KB TB MB n o Lt v K Lx :=
  ⟨h.tree.below hb, h.keys.below hb, boxed_of h.rb (hb.block _ h.rb.lt), boxed_of h.kb (hb.block _ h.kb.lt), boxed_of h.tb (hb.block _ h.tb.lt), h.tx.keep (hb.block _ h.tx.lt), h.apart, h.own, h.low, h.nos, below_tr h.below hb⟩
theorem tree_grow {o' : Lab} (g : Goes (dom o) wr w' (dom o')) {q b : Nat} (hq : o' q ≠ none) (hb : b < wr.heap.size) (hn : o q ≠ none → q ≠ b) : q ≠ b := by
  rcases g.grow q hq with e | e
  · exact hn e
  · omega
/-- A call of the tree. -/
theorem St.tree_step (h : St w wr t RB KB TB MB n o Lt v K Lx) {o' : Lab} {Lt' : List En} (T : TreeAt w' t o' Lt') (g : Goes (dom o) wr w' (dom o')) : St w w' t RB KB TB MB n o' Lt' v K Lx := by
  have hv : ∀ q, v.ownBlock = some q → q < wr.heap.size ∧ ¬ o q ≠ none := fun q hq => ⟨(h.keys.lt q hq).2, fun e => (h.apart q e).2.2.2.2 hq⟩
  have nb : ∀ b, (∀ q, o q ≠ none → q ≠ b) → ¬ dom o b := fun b hb e => hb b e rfl
  have a1 : ∀ q, o q ≠ none → q ≠ RB := fun q e => (h.apart q e).1
  have a2 : ∀ q, o q ≠ none → q ≠ KB := fun q e => (h.apart q e).2.1
  have a3 : ∀ q, o q ≠ none → q ≠ TB := fun q e => (h.apart q e).2.2.1
  have a4 : ∀ q, o q ≠ none → q ≠ MB := fun q e => (h.apart q e).2.2.2.1
  refine ⟨T, h.keys.keep fun q hq => g.block q (hv q hq).1 (hv q hq).2, boxed_of h.rb (g.block _ h.rb.lt (nb _ a1)), boxed_of h.kb (g.block _ h.kb.lt (nb _ a2)), boxed_of h.tb (g.block _ h.tb.lt (nb _ a3)), h.tx.keep (g.block _ h.tx.lt (nb _ a4)),
    fun q hq => ⟨tree_grow g hq h.rb.lt (a1 q), tree_grow g hq h.kb.lt (a2 q), tree_grow g hq h.tb.lt (a3 q), tree_grow g hq h.tx.lt (a4 q), fun e => ?_⟩, h.own, fun q hq => ?_, h.nos, ?_⟩
  · rcases g.grow q hq with e1 | e1
    · exact (h.apart q e1).2.2.2.2 e
    · have := (hv q e).1; omega
  · rcases g.grow q hq with e | e
    · exact h.low q e
    · have := h.below.size; omega
  · exact (below_dom h.below g h.low h.below.size).1
/-- A call that turns the row of keys alone: what it leaves, ahead of the store into the box. -/
theorem St.keys_step (h : St w wr t RB KB TB MB n o Lt v K Lx) {v' : Value} {K' : List Int} (O : TI.OwnPg w' w.heap.size v' K') (g : Goes (ownB v) wr w' (ownB v')) :
    Boxed w' KB 47 v ∧ St w (w'.setCell ⟨KB, 0, none⟩ v') t RB KB TB MB n o Lt v' K' Lx := by
  have nb : ∀ b, (∀ g, v.ownBlock = some g → g ≠ b) → ¬ ownB v b := fun b hb e => hb b e rfl
  have c1 : ∀ g, v.ownBlock = some g → g ≠ RB := fun g e => (h.own g e).1
  have c2 : ∀ g, v.ownBlock = some g → g ≠ KB := fun g e => (h.own g e).2.1
  have c3 : ∀ g, v.ownBlock = some g → g ≠ TB := fun g e => (h.own g e).2.2.1
  have c4 : ∀ g, v.ownBlock = some g → g ≠ MB := fun g e => (h.own g e).2.2.2
  have k1 := boxed_of h.kb (g.block _ h.kb.lt (nb _ c2))
  have ho : ∀ q, v'.ownBlock = some q → v.ownBlock = some q ∨ wr.heap.size ≤ q := fun q hq => g.grow q hq
  have hs : ∀ b, b < wr.heap.size → (∀ g, v.ownBlock = some g → g ≠ b) → b ≠ KB → (w'.setCell ⟨KB, 0, none⟩ v').heap[b]? = wr.heap[b]? := fun b hb hn hk =>
    (Below.heap_setCell _ _ _ b hk).trans (g.block b hb (nb b hn))
  have n := h.nos
  have own' : ∀ q, v'.ownBlock = some q → q ≠ RB ∧ q ≠ KB ∧ q ≠ TB ∧ q ≠ MB := fun q hq => by
    rcases ho q hq with e | e
    · exact h.own q e
    · have := h.rb.lt; have := h.kb.lt; have := h.tb.lt; have := h.tx.lt; omega
  have B : Below w.heap.size w w' := ⟨g.os.trans h.below.os, g.tape.trans h.below.tape, g.output.trans h.below.output, Nat.le_trans h.below.size g.size, fun k hk => (g.block k (by have := h.below.size; omega) (fun e => by have := (h.keys.lt k e).1; omega)).trans (h.below.block k hk)⟩
  refine ⟨k1, h.tree.keep (fun k hk => hs k (h.tree.lt k hk) (fun g e e2 => (h.apart k hk).2.2.2.2 (e2 ▸ e)) (h.apart k hk).2.1) (Nat.le_trans g.size (by simp)), O.keep fun q hq => Below.heap_setCell _ _ _ q (own' q hq).2.1, boxed_of h.rb (hs _ h.rb.lt c1 (by omega)), k1.set v', boxed_of h.tb (hs _ h.tb.lt c3 (by omega)), h.tx.keep (hs _ h.tx.lt c4 (by omega)),
    fun q hq => ⟨(h.apart q hq).1, (h.apart q hq).2.1, (h.apart q hq).2.2.1, (h.apart q hq).2.2.2.1, fun e => ?_⟩, own', h.low, h.nos, B.setCell (p := ⟨KB, 0, none⟩) n.2.1 _⟩
  rcases ho q e with e1 | e1
  · exact (h.apart q hq).2.2.2.2 e1
  · have := h.tree.lt q hq; omega
/-- A store into the map. -/
theorem St.map_step (h : St w wr t RB KB TB MB n o Lt v K Lx) {m : Nat} {Lx' : List En} (hg : wr.grownBy w' (some MB)) (T : TxAt w' MB m Lx') : St w w' t RB KB TB MB m o Lt v K Lx' := by
  have hs : ∀ b, b < wr.heap.size → b ≠ MB → w'.heap[b]? = wr.heap[b]? := fun b hb hn => hg.block b hb (fun e => hn (by cases e; rfl))
  have n := h.nos
  exact ⟨h.tree.keep (fun k hk => hs k (h.tree.lt k hk) (h.apart k hk).2.2.2.1) hg.size, h.keys.keep fun q hq => hs q (h.keys.lt q hq).2 (h.own q hq).2.2.2, boxed_of h.rb (hs _ h.rb.lt (by omega)), boxed_of h.kb (hs _ h.kb.lt (by omega)), boxed_of h.tb (hs _ h.tb.lt (by omega)), T, h.apart, h.own, h.low, h.nos,
    h.below.grown hg h.below.size (fun k e => by cases e; exact n.2.2.2.1)⟩
theorem St.texts (h : St w wr t RB KB TB MB n o Lt v K Lx) {m : Nat} {Lx' : List En} (hm : n ≤ m) (hL : ∀ y ∈ Lx', y ∈ Lx) : St w wr t RB KB TB MB m o Lt v K Lx' :=
  ⟨h.tree, h.keys, h.rb, h.kb, h.tb, (h.tx.mono hm).sub hL, h.apart, h.own, h.low, h.nos, h.below⟩
end
end Go.Proofs.Ytlefcjgemojhpab.PTree
