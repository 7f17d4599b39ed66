/- The document's own disk in memory: four rows behind a head. -/
import Derived.Test.YthfpinjegfgeiaaSectCrash
namespace Go.Proofs.Ythfpinjegfgeiaa
open Go Go.RowKit
set_option maxRecDepth 100000

structure FR where
  a : Option Addr
  c : Nat
def FR.blk (f : FR) (k : Nat) : Prop := f.a.map (·.block) = some k
def ety (i : Nat) : TypeId := if i = 2 then 3 else 9
def rsl (F : Nat → FR) (X : Nat → List Value) (i : Nat) : Value := .slice (F i).a (X i).length (F i).c
def rown (b : Nat) (F : Nat → FR) (k : Nat) : Prop := k = b ∨ ∃ i, i < 4 ∧ (F i).blk k
def updF (F : Nat → FR) (i : Nat) (f : FR) : Nat → FR := fun j => if j = i then f else F j
def updX (X : Nat → List Value) (i : Nat) (x : List Value) : Nat → List Value := fun j => if j = i then x else X j

/-- Four rows and a head; all else is as it was in w0, but own0. -/
structure RS (own0 : Nat → Prop) (w0 W : World) (b : Nat) (hd : Array Value) (F : Nat → FR) (X : Nat → List Value) : Prop where
  head : W.heap[b]? = some (.cells hd 57 (0, 0))
  own : ∀ i, i < 4 → W.ownsRow 0 (ety i) 1 (rsl F X i) (X i).length (X i)
  far : ∀ i, i < 4 → ∀ k, (F i).blk k → k ≠ b
  sep : ∀ i, i < 4 → ∀ j, j < 4 → i ≠ j → ∀ k, (F i).blk k → ¬ (F j).blk k
  goes : Goes own0 w0 W (rown b F)

theorem FR.blk_of (f : FR) (n : Nat) (k : Nat) : (Value.slice f.a n f.c).ownBlock = some k ↔ f.blk k := by rw [ownBlock_slice]; rfl

section
variable {own0 : Nat → Prop} {w0 W : World} {b : Nat} {hd : Array Value} {F : Nat → FR} {X : Nat → List Value}

theorem RS.lt (h : RS own0 w0 W b hd F X) : ∀ k, rown b F k → k < W.heap.size := by
  rintro k (rfl | ⟨i, hi, hk⟩)
  · exact lt_of_heap h.head
  · exact ((h.own i hi).lt k ((F i).blk_of _ k |>.2 hk)).2

theorem RS.keep {W' : World} (h : RS own0 w0 W b hd F X) (hb : ∀ k, rown b F k → W'.heap[k]? = W.heap[k]?) (g : Goes own0 w0 W' (rown b F)) : RS own0 w0 W' b hd F X :=
  ⟨by rw [hb b (.inl rfl)]; exact h.head, fun i hi => ownsRow_of_block (h.own i hi) (fun g hg => hb g (.inr ⟨i, hi, ((F i).blk_of _ g).1 hg⟩)), h.far, h.sep, g⟩
theorem RS.drew (h : RS own0 w0 W b hd F X) : RS own0 w0 W.drew b hd F X := h.keep (fun _ _ => rfl) h.goes.drew
theorem RS.alloc (h : RS own0 w0 W b hd F X) (o : Obj) : RS own0 w0 (W.alloc o) b hd F X := h.keep (fun k hk => Below.heap_alloc W o k (h.lt k hk)) (h.goes.alloc o)
theorem RS.on {W' : World} (h : RS own0 w0 W b hd F X) (hb : Below W.heap.size W W') : RS own0 w0 W' b hd F X :=
  h.keep (fun k hk => hb.block k (h.lt k hk)) ⟨hb.os.trans h.goes.os, hb.tape.trans h.goes.tape, hb.output.trans h.goes.output, Nat.le_trans h.goes.size hb.size, fun k hk hn => (hb.block k (Nat.lt_of_lt_of_le hk h.goes.size)).trans (h.goes.block k hk hn), h.goes.grow⟩

theorem RS.cell (h : RS own0 w0 W b hd F X) (j : Nat) (v : Value) (hj : hd[j]? = some v) : W.cell? ⟨b, j, none⟩ = some v := by rw [cell_of_row W _ _ _ _ _ h.head]; exact hj
theorem RS.fz (h : RS own0 w0 W b hd F X) (j : Nat) : W.frozen? ⟨b, j, none⟩ = false := by simp [World.frozen?, h.head]

/-- A cell of the head is written. -/
theorem RS.set (h : RS own0 w0 W b hd F X) (hb0 : own0 b ∨ w0.heap.size ≤ b) (j : Nat) (v : Value) : RS own0 w0 (W.setCell ⟨b, j, none⟩ v) b (hd.setIfInBounds j v) F X := by
  have e := setCell_eq_setRow W b j _ _ _ v h.head
  refine ⟨?_, fun i hi => ownsRow_of_block (h.own i hi) (fun g hg => Below.heap_setCell W ⟨b, j, none⟩ v g (h.far i hi g (((F i).blk_of _ g).1 hg))), h.far, h.sep, h.goes.setCell hb0 v⟩
  rw [e]
  exact setRow_heap W _ _ _ _ _ h.head

/-- A row takes the place of number i: it is that row still, or a new one. -/
theorem RS.swap {W' : World} (h : RS own0 w0 W b hd F X) (i : Nat) (hi : i < 4) (f : FR) (x : List Value) (hother : ∀ k, k < W.heap.size → ¬ (F i).blk k → W'.heap[k]? = W.heap[k]?)
    (ho : W'.ownsRow 0 (ety i) 1 (.slice f.a x.length f.c) x.length x) (hf : ∀ k, f.blk k → (F i).blk k ∨ W.heap.size ≤ k) (g : Goes own0 w0 W' (rown b F)) :
    RS own0 w0 W' b hd (updF F i f) (updX X i x) := by
  have hbb : W'.heap[b]? = W.heap[b]? := hother b (h.lt b (.inl rfl)) (fun e => h.far i hi b e rfl)
  have hk : ∀ j, j < 4 → j ≠ i → ∀ k, (F j).blk k → W'.heap[k]? = W.heap[k]? := fun j hj hji k hk => hother k (h.lt k (.inr ⟨j, hj, hk⟩)) (h.sep j hj i hi hji k hk)
  have hbk : ∀ j, j < 4 → ∀ k, (updF F i f j).blk k → (F j).blk k ∨ (j = i ∧ W.heap.size ≤ k) := by
    intro j hj k hk
    unfold updF at hk
    by_cases e : j = i
    · subst e
      rw [if_pos rfl] at hk
      rcases hf k hk with e | e
      · exact .inl e
      · exact .inr ⟨rfl, e⟩
    · rw [if_neg e] at hk
      exact .inl hk
  refine ⟨by rw [hbb]; exact h.head, fun j hj => ?_, fun j hj k hk' => ?_, fun j hj l hl hjl k hk' hk2 => ?_, ⟨g.os, g.tape, g.output, g.size, g.block, ?_⟩⟩
  · unfold rsl updF updX
    by_cases e : j = i
    · subst e
      simp only [if_true]
      exact ho
    · simp only [e, if_false]
      exact ownsRow_of_block (h.own j hj) (fun k hkk => hk j hj e k (((F j).blk_of _ k).1 hkk))
  · rcases hbk j hj k hk' with e | ⟨_, e⟩
    · exact h.far j hj k e
    · have := h.lt b (.inl rfl); omega
  · rcases hbk j hj k hk' with e | ⟨e1, e⟩
    · rcases hbk l hl k hk2 with e' | ⟨e1', e'⟩
      · exact h.sep j hj l hl hjl k e e'
      · have := h.lt k (.inr ⟨j, hj, e⟩); omega
    · rcases hbk l hl k hk2 with e' | ⟨e1', e'⟩
      · have := h.lt k (.inr ⟨l, hl, e'⟩); omega
      · omega
  · rintro k (e | ⟨j, hj, e⟩)
    · exact g.grow k (.inl e)
    · rcases hbk j hj k e with e | ⟨_, e⟩
      · exact g.grow k (.inr ⟨j, hj, e⟩)
      · exact .inr (Nat.le_trans h.goes.size e)

/-- append to row i. -/
theorem RS.app {W' : World} (h : RS own0 w0 W b hd F X) (i : Nat) (hi : i < 4) (hown0 : ∀ k, (F i).blk k → own0 k ∨ w0.heap.size ≤ k) (v : Value) (g cap : Nat)
    (ho : W'.ownsRow 0 (ety i) 1 (.slice (some ⟨g, 0, none⟩) ((X i).length + 1) cap) ((X i).length + 1) (X i ++ [v])) (hg : W.grownBy W' (rsl F X i).ownBlock) (hat : (rsl F X i).ownBlock = some g ∨ g = W.heap.size) :
    RS own0 w0 W' b hd (updF F i ⟨some ⟨g, 0, none⟩, cap⟩) (updX X i (X i ++ [v])) := by
  unfold rsl at hg hat
  rw [ownBlock_slice] at hg hat
  refine h.swap i hi _ _ (fun k hk hn => hg.block k hk (fun e => hn e.symm)) (by rw [List.length_append]; exact ho) (fun k hk => ?_) (h.goes.grown hg (fun k e => hown0 k e))
  obtain rfl : g = k := by simpa [FR.blk] using hk
  rcases hat with e | e
  · exact .inl e
  · right; omega

/-- Row i is nil. -/
theorem RS.void (h : RS own0 w0 W b hd F X) (i : Nat) (hi : i < 4) : RS own0 w0 W b hd (updF F i ⟨none, 0⟩) (updX X i []) :=
  h.swap i hi _ _ (fun _ _ _ => rfl) (World.ownsRow_nil _ _ _ _) (fun k hk => by simp [FR.blk] at hk) h.goes

/-- Element j of row i is written. -/
theorem RS.put (h : RS own0 w0 W b hd F X) (i : Nat) (hi : i < 4) (hown0 : ∀ k, (F i).blk k → own0 k ∨ w0.heap.size ≤ k) (j : Nat) (hj : j < (X i).length) (v : Value) (g : Nat) (hg : (F i).a = some ⟨g, 0, none⟩) :
    RS own0 w0 (W.setCell ⟨g, j, none⟩ v) b hd F (updX X i ((X i).set j v)) := by
  have hgb : (F i).blk g := by unfold FR.blk; rw [hg]; rfl
  have e : updF F i (F i) = F := by
    funext k
    unfold updF
    by_cases e : k = i
    · rw [if_pos e, e]
    · rw [if_neg e]
  have := h.swap (W' := W.setCell ⟨g, j, none⟩ v) i hi (F i) ((X i).set j v) (fun k hk hn => Below.heap_setCell W ⟨g, j, none⟩ v k (fun e => hn (by rw [e]; exact hgb))) (by
      obtain ⟨h1, h2⟩ := h.own i hi
      rw [List.length_set]
      rcases h2 with ⟨e1, e2⟩ | ⟨g', cap, cur, hv, hb', hh, hn, hm, hs, ht⟩
      · omega
      · unfold rsl at hv
        injection hv with hv1 hv2 hv3
        have hgg : g' = g := by
          rw [hg] at hv1
          injection hv1 with hv1
          injection hv1 with e1 _ _
          exact e1.symm
        subst hgg
        refine ⟨by rw [List.length_set]; simp, .inr ⟨g', cap, cur.setIfInBounds j v, by rw [hv1, hv3], hb', ?_, hn, hm, by simpa using hs, ?_⟩⟩
        · rw [setCell_eq_setRow W g' j cur _ _ v hh]
          exact setRow_heap W _ _ _ _ _ hh
        · rw [Array.toList_setIfInBounds, List.take_set, ht])
    (fun k hk => .inl hk) (h.goes.setCell (q := ⟨g, j, none⟩) (hown0 g hgb) v)
  rw [e] at this
  exact this

/-- What lies in row i. -/
theorem RS.at_ (h : RS own0 w0 W b hd F X) (i : Nat) (hi : i < 4) (hpos : 0 < (X i).length) : ∃ g, (F i).a = some ⟨g, 0, none⟩ ∧ (∀ j v, (X i)[j]? = some v → W.cell? ⟨g, j, none⟩ = some v) ∧ (∀ j, W.frozen? ⟨g, j, none⟩ = false) ∧ g ≠ b ∧ g < W.heap.size := by
  obtain ⟨h1, h2⟩ := h.own i hi
  rcases h2 with ⟨e1, e2⟩ | ⟨g, cap, cur, hv, hb', hh, hn, hm, hs, ht⟩
  · omega
  · unfold rsl at hv
    injection hv with hv1 hv2 hv3
    have hgb : (F i).blk g := by unfold FR.blk; rw [hv1]; rfl
    refine ⟨g, hv1, fun j v hj => ?_, fun j => by simp [World.frozen?, hh], h.far i hi g hgb, lt_of_heap hh⟩
    rw [cell_of_row W _ _ _ _ _ hh]
    have : (cur.toList.take ((X i).length * 1))[j]? = some v := by rw [ht]; exact hj
    rw [List.getElem?_take] at this
    split at this
    · simpa using this
    · cases this
end

/-! ### The disk -/
def rl (d : SD) : Int := if d.fused then d.left else -1
def XS (d : SD) : Nat → List Value
  | 0 => d.seen.map .string
  | 1 => d.safe.map .string
  | 2 => d.loose.map fun x => .int .i64 (x.1 : Int)
  | _ => d.loose.map fun x => .string x.2
def rhead (d : SD) (F : Nat → FR) : Array Value := #[.slice (F 0).a d.seen.length (F 0).c, .slice (F 1).a d.safe.length (F 1).c, .slice (F 2).a d.loose.length (F 2).c, .slice (F 3).a d.loose.length (F 3).c, .int .i64 (rl d)]
structure RefAt (W : World) (b : Nat) (F : Nat → FR) (d : SD) : Prop where
  rs : RS (rown b F) W W b (rhead d F) F (XS d)
  ok : d.ok

theorem RS.rebase {own0 : Nat → Prop} {w0 W : World} {b : Nat} {hd : Array Value} {F : Nat → FR} {X : Nat → List Value} (h : RS own0 w0 W b hd F X) : RS (rown b F) W W b hd F X := ⟨h.head, h.own, h.far, h.sep, Goes.refl _ _⟩
theorem RefAt.lt {W : World} {b : Nat} {F : Nat → FR} {d : SD} (h : RefAt W b F d) : ∀ k, rown b F k → k < W.heap.size := h.rs.lt
theorem RefAt.keep {W W' : World} {b : Nat} {F : Nat → FR} {d : SD} (h : RefAt W b F d) (hb : ∀ k, rown b F k → W'.heap[k]? = W.heap[k]?) : RefAt W' b F d :=
  ⟨⟨by rw [hb b (.inl rfl)]; exact h.rs.head, fun i hi => ownsRow_of_block (h.rs.own i hi) (fun g hg => hb g (.inr ⟨i, hi, ((F i).blk_of _ g).1 hg⟩)), h.rs.far, h.rs.sep, Goes.refl _ _⟩, h.ok⟩
theorem RS.congr {own0 : Nat → Prop} {w0 W : World} {b : Nat} {hd : Array Value} {F : Nat → FR} {X X' : Nat → List Value} (h : RS own0 w0 W b hd F X) (hX : ∀ i, i < 4 → X i = X' i) : RS own0 w0 W b hd F X' :=
  ⟨h.head, fun i hi => by unfold rsl; rw [← hX i hi]; exact h.own i hi, h.far, h.sep, h.goes⟩
/-- Out of the rows. -/
theorem RefAt.of {own0 : Nat → Prop} {w0 W : World} {b : Nat} {hd : Array Value} {F : Nat → FR} {X : Nat → List Value} (h : RS own0 w0 W b hd F X) (d : SD) (hh : hd = rhead d F) (h0 : X 0 = XS d 0) (h1 : X 1 = XS d 1) (h2 : X 2 = XS d 2) (h3 : X 3 = XS d 3) (ok : d.ok) : RefAt W b F d := by
  subst hh
  refine ⟨(h.congr fun i hi => ?_).rebase, ok⟩
  match i, hi with
  | 0, _ => exact h0
  | 1, _ => exact h1
  | 2, _ => exact h2
  | 3, _ => exact h3

end Go.Proofs.Ythfpinjegfgeiaa
