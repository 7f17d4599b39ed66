/- quirref.LeafRead, walked: the document's own answer is what the plain function reads. Condition: the text's length. -/
import Derived.Test.YtiaddijibaclkaaLeafRefErr
import Derived.Test.YtiaddijibaclkaaLeafRead
namespace Go.Proofs.Ytiaddijibaclkaa.PLeaf
open Go Go.RowKit
set_option maxRecDepth 100000

/-! ### what follows from the plain reading -/
theorem Lf.read_readN {s : Lf.By} {n t : Nat} {X : List Lf.Sl} (hG : PCode.Nb.getN 0 0 s = (n, t, 0)) (h : Lf.read s = some X) : Lf.readN n (s.drop t) = some (X, []) ∧ n ≤ 40 := by
  unfold Lf.read at h
  rw [hG] at h
  simp only at h
  by_cases hc : (0 : Nat) ≠ 0 ∨ 40 < n ∨ 512 < s.length
  · rw [if_pos hc] at h; cases h
  · rw [if_neg hc] at h
    cases hr : Lf.readN n (s.drop t) with
    | none => rw [hr] at h; cases h
    | some lq =>
      obtain ⟨l, q⟩ := lq
      rw [hr] at h
      simp only at h
      by_cases hq : q = [] ∧ Lf.ends l = false
      · rw [if_pos hq] at h
        cases h
        rw [hq.1]
        exact ⟨rfl, by omega⟩
      · rw [if_neg hq] at h; cases h
theorem Lf.read_bad {s : Lf.By} (h : (PCode.Nb.getN 0 0 s).2.2 ≠ 0 ∨ 40 < (PCode.Nb.getN 0 0 s).1) : Lf.read s = none := by
  unfold Lf.read
  rw [if_pos (by rcases h with e | e; exact .inl e; exact .inr (.inl e))]
theorem Lf.read_no {s : Lf.By} {n t : Nat} (hG : PCode.Nb.getN 0 0 s = (n, t, 0)) (h : Lf.readN n (s.drop t) = none) : Lf.read s = none := by
  cases hr : Lf.read s with
  | none => rfl
  | some X => rw [(Lf.read_readN hG hr).1] at h; cases h
theorem Lf.read_far {s : Lf.By} {n t : Nat} {A : List Lf.Sl} {R : Lf.By} (hG : PCode.Nb.getN 0 0 s = (n, t, 0)) (h : Lf.readN n (s.drop t) = some (A, R)) (hno : ¬ (Lf.check A = 0 ∧ Lf.bytes A = s)) : Lf.read s = none := by
  cases hr : Lf.read s with
  | none => rfl
  | some X =>
    rw [(Lf.read_readN hG hr).1] at h
    cases h
    exact absurd ⟨(Lf.read_only hr).2, (Lf.read_only hr).1⟩ hno
theorem Lf.read_big {s : Lf.By} {n t q m j : Nat} {A : List Lf.Sl} {R : Lf.By} (hG : PCode.Nb.getN 0 0 s = (n, t, 0)) (h : Lf.readN n (s.drop t) = Lf.pre A (Lf.readN (q + 1) R)) (hR : PCode.Nb.getN 0 0 R = (m, j, 0)) (hm : 1000 < m) : Lf.read s = none := by
  cases hr : Lf.read s with
  | none => rfl
  | some X =>
    exfalso
    rw [(Lf.read_readN hG hr).1] at h
    cases hg : Lf.getS R with
    | none => rw [Lf.readN_none hg] at h; cases h
    | some xt =>
      obtain ⟨x, tk⟩ := xt
      rw [Lf.readN_some hg] at h
      cases hq : Lf.readN q (R.drop tk) with
      | none => rw [hq] at h; cases h
      | some p =>
        rw [hq] at h
        simp only [Lf.pre, Option.map_some, Option.some.injEq, Prod.mk.injEq] at h
        have hx : x ∈ X := by rw [h.1]; simp
        have h1 := Lf.text_le X x hx
        have h2 := (Lf.check_ok (Lf.read_only hr).2).2.2.2
        rw [Lf.size_eq] at h2
        have hsz : x.text.size = m - 1 := by
          unfold Lf.getS at hg
          rw [hR] at hg
          simp only [if_true] at hg
          rw [if_neg (by omega)] at hg
          by_cases hl : R.length - j < m - 1
          · rw [if_pos hl] at hg; cases hg
          · rw [if_neg hl] at hg
            simp only [Option.some.injEq, Prod.mk.injEq] at hg
            rw [← hg.1]
            simp only
            rw [Lf.mk_size, List.length_take, List.length_drop]
            omega
        omega
theorem Lf.getS_zero {R : Lf.By} {j : Nat} (hR : PCode.Nb.getN 0 0 R = (0, j, 0)) : Lf.getS R = some (Lf.none', j) := by
  unfold Lf.getS; rw [hR]; simp only [if_true]
theorem Lf.getS_bad {R : Lf.By} {m j e : Nat} (hR : PCode.Nb.getN 0 0 R = (m, j, e)) (he : e ≠ 0) : Lf.getS R = none := by
  unfold Lf.getS; rw [hR]; simp only; rw [if_neg he]
theorem Lf.getS_short {R : Lf.By} {y j : Nat} (hR : PCode.Nb.getN 0 0 R = (y + 1, j, 0)) (h : R.length - j < y) : Lf.getS R = none := by
  unfold Lf.getS; rw [hR]; simp only [if_true]; rw [if_neg (by omega), if_pos (by omega)]
theorem Lf.getS_fit {R : Lf.By} {y j : Nat} (hR : PCode.Nb.getN 0 0 R = (y + 1, j, 0)) (h : ¬ R.length - j < y) : Lf.getS R = some (⟨true, Lf.mk ((R.drop j).take y)⟩, j + y) := by
  unfold Lf.getS; rw [hR]; simp only [if_true]; rw [if_neg (by omega), if_neg (by omega), Nat.add_sub_cancel]; rfl

theorem refRead_result {W : World} {b : Nat} {v : Value} (h : W.cell? ⟨b, 0, none⟩ = some v) (tmps : Array Value) (h2 : tmps.getD 2 undef = .pointer (some ⟨b, 0, none⟩)) :
    (results Try.f54 tmps).run Try.prog W = .ok (.tuple #[.agg #[v], tmps.getD 3 undef]) W := by
  have h5 : tmps[2]?.getD undef = .pointer (some ⟨b, 0, none⟩) := by simpa using h2
  simp [results, Try.results54, go_sem, h5, h]

/-- How it stands in the loop: the page's own box, and its row. -/
structure RR (w w0 wr : World) (v : Value) (A : List Lf.Sl) : Prop where
  size : w0.heap.size = w.heap.size + 1
  below : Below w0.heap.size w0 wr
  pbox : wr.heap[w.heap.size + 1]? = some (.cells #[v] 73 (0, 0))
  own : OwnPg wr (w.heap.size + 2) v A
section
variable {w w0 wr : World} {v : Value} {A : List Lf.Sl} (h : RR w w0 wr v A)
include h
theorem RR.c7 : wr.cell? ⟨w.heap.size + 1, 0, none⟩ = some v := by rw [cell_of_row wr _ _ _ _ _ h.pbox]; rfl
theorem RR.fz : wr.frozen? ⟨w.heap.size + 1, 0, none⟩ = false := by simp [World.frozen?, h.pbox]
theorem RR.big : w.heap.size + 2 ≤ wr.heap.size := lt_of_heap h.pbox
theorem RR.keep {W : World} (hb : Below wr.heap.size wr W) : RR w w0 W v A :=
  ⟨h.size, below_tr h.below hb, (hb.block _ (lt_of_heap h.pbox)).trans h.pbox, h.own.below hb⟩
theorem RR.push {W w5 : World} {v' : Value} {x : Lf.Sl} (hb : Below wr.heap.size wr W) (ho : OwnPg w5 (w.heap.size + 2) v' (A ++ [x])) (hg : W.grownBy w5 v.ownBlock) : RR w w0 (w5.setCell ⟨w.heap.size + 1, 0, none⟩ v') v' (A ++ [x]) := by
  have hW := h.keep hb
  have hne : some (w.heap.size + 1) ≠ v.ownBlock := fun e => by have := (hW.own.lt _ e.symm).1; omega
  have h5 : w5.heap[w.heap.size + 1]? = some (.cells #[v] 73 (0, 0)) := (hg.block _ (lt_of_heap hW.pbox) hne).trans hW.pbox
  refine ⟨h.size, ?_, ?_, ?_⟩
  · refine (hW.below.grown hg hW.below.size (fun k hk => ?_)).setCell (p := ⟨w.heap.size + 1, 0, none⟩) (by show _ ≤ w.heap.size + 1; have := h.size; omega) _
    have := (hW.own.lt k hk).1
    have := h.size
    omega
  · rw [setCell_eq_setRow w5 _ 0 _ _ _ v' h5]
    exact setRow_heap w5 _ _ _ _ _ h5
  · refine ho.keep fun q hq => Below.heap_setCell _ _ _ _ (fun e => ?_)
    have := (ho.lt q hq).1
    have e' : q = w.heap.size + 1 := e
    omega
end

/-- What the reference's reading answers. -/
def RfOut (w : World) (R : Option (List Lf.Sl)) (e : Ending) (w' : World) : Prop :=
  ∃ v, e = .returned (.tuple #[.agg #[v], .bool R.isSome]) ∧ OwnPg w' w.heap.size v (R.getD []) ∧ Below w.heap.size w w'

end Go.Proofs.Ytiaddijibaclkaa.PLeaf
