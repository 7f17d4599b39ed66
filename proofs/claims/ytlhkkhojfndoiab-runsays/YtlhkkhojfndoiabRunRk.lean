/- The reference's kinds in plain words: of whom one reads by the writer's place; what one operation makes of the three. No conditions but that the run is right. -/
import Derived.Test.YtlhkkhojfndoiabRunWrt
import Derived.Test.YtlhkkhojfndoiabRunKnds
namespace Go.Proofs.Ytlhkkhojfndoiab.PRun
open Go Go.RowKit PPool PGraph
set_option maxRecDepth 100000

theorem from_wr {X : List Rn.Op} {j : Nat} {p : Rn.Op} (hj : j ≤ X.length) (hp : Rn.item p = true) : match wrI X j p.i j with
    | some q => ∃ o, X[q]? = some o ∧ q < j ∧ Rn.from_ (X.take j) p = if o.x = p.x then none else some o.x
    | none => Rn.from_ (X.take j) p = none := by
  have h := wrI_last (it := p.i) hj j (Nat.le_refl _)
  have hl : (X.take j).length = j := by rw [List.length_take]; omega
  unfold Rn.from_
  rw [hp, hl, if_pos rfl]
  cases hw : wrI X j p.i j with
  | none => rw [hw] at h; simp only at h ⊢; rw [h]
  | some q =>
    rw [hw] at h
    obtain ⟨o, h1, h2, h3⟩ := h
    refine ⟨o, h1, h2, ?_⟩
    rw [h3]
/-- Does a read of its own, at a place, keep the first of the three? -/
def hitR (X : List Rn.Op) (k : Nat) (t : Int) (j : Nat) (p : Rn.Op) : Bool := if p.x = t ∧ p.k = 1 then (match Rn.from_ (X.take j) p with
    | some f => Rn.com (X.take k) f.toNat
    | none => true) else true
def recJ (X : List Rn.Op) (k : Nat) (t : Int) (j : Nat) : Bool := Rn.All X (hitR X k t) j
theorem recJ_next {X : List Rn.Op} {k : Nat} {t : Int} {j : Nat} {p : Rn.Op} (hp : X[j]? = some p) : recJ X k t (j + 1) = (recJ X k t j && hitR X k t j p) := Rn.All_next hp
theorem from_good {X : List Rn.Op} (hv : Rn.check X = 0) {j : Nat} {p : Rn.Op} {f : Int} (h : Rn.from_ (X.take j) p = some f) : 0 ≤ f ∧ f < 12 := by
  unfold Rn.from_ at h
  split at h
  · split at h
    · rename_i t ht
      split at h
      · cases h
      · injection h with h
        obtain ⟨q, hq, e⟩ := lastW_mem _ ht
        have g := Rn.good_mem hv (List.mem_of_mem_take hq)
        have := g.x0; have := g.x1
        omega
    · cases h
  · cases h
theorem rec_three {X : List Rn.Op} (hv : Rn.check X = 0) {k : Nat} {o : Rn.Op} (ho : X[k]? = some o) (h3 : o.k = 3) : Rn.recB X (k + 1) = (Rn.recB X k && recJ X k o.x k) := by
  unfold Rn.recB
  rw [Rn.All_next ho]
  congr 1
  have g := Rn.good_at hv ho
  unfold Rn.recAt
  rw [decide_eq_true h3, Bool.not_true, Bool.false_or]
  apply Bool.eq_iff_iff.2
  unfold recJ
  rw [Rn.All_iff, List.all_eq_true]
  constructor
  · intro h j p hj hp
    unfold hitR
    by_cases hc : p.x = o.x ∧ p.k = 1
    · rw [if_pos hc]
      cases hf : Rn.from_ (X.take j) p with
      | none => rfl
      | some f =>
        have hfg := from_good hv hf
        have := h f.toNat (List.mem_range.2 (by omega))
        have hr : Rn.reads X k o.x.toNat f.toNat = true := Rn.reads_iff.2 ⟨j, p, hj, hp, hc.2, by have := g.x0; omega, by rw [hf]; congr 1; omega⟩
        rw [hr] at this
        simpa using this
    · rw [if_neg hc]
  · intro h f hf
    cases hr : Rn.reads X k o.x.toNat f with
    | false => rfl
    | true =>
      obtain ⟨j, p, hj, hp, h1, h2, h4⟩ := Rn.reads_iff.1 hr
      have := h j p hj hp
      unfold hitR at this
      rw [if_pos ⟨by have := g.x0; omega, h1⟩, h4] at this
      simpa using this
theorem rec_not {X : List Rn.Op} {k : Nat} {o : Rn.Op} (ho : X[k]? = some o) (h3 : ¬ o.k = 3) : Rn.recB X (k + 1) = Rn.recB X k := by
  unfold Rn.recB
  rw [Rn.All_next ho]
  unfold Rn.recAt
  rw [decide_eq_false h3]; simp
theorem two_not {X : List Rn.Op} {k : Nat} {o : Rn.Op} (ho : X[k]? = some o) (h : 2 < o.k) : Rn.strB X (k + 1) = Rn.strB X k ∧ Rn.casB X (k + 1) = Rn.casB X k := by
  have hi : Rn.item o = false := by unfold Rn.item; rw [decide_eq_false (by omega), decide_eq_false (by omega)]; rfl
  have hf : Rn.from_ (X.take k) o = none := by unfold Rn.from_; rw [hi]; rfl
  exact ⟨(strB_none ho hf).1, (strB_none ho hf).2.1⟩
theorem item_of {o : Rn.Op} (g : Rn.Good o) (h : ¬ 2 < o.k) : Rn.item o = true := by
  have := g.k0
  have e : o.k = 1 ∨ o.k = 2 := by omega
  unfold Rn.item
  rcases e with e | e <;> simp [e]

/-- How all stands while the reference looks at the kinds. -/
structure RkAt (w W : World) (r c s : Bool) : Prop where
  res : ArrAt W w.heap.size #[.bool false, .bool false, .bool false]
  kind : ArrAt W (w.heap.size + 1) #[.bool r, .bool c, .bool s]
  bel : Below w.heap.size w W
theorem RkAt.below {w W W' : World} {r c s : Bool} (h : RkAt w W r c s) (hb : Below W.heap.size W W') : RkAt w W' r c s := ⟨h.res.below hb, h.kind.below hb, below_tr h.bel hb⟩
theorem RkAt.put {w W : World} {r c s : Bool} (h : RkAt w W r c s) (j : Nat) (v : Bool) {r' c' s' : Bool} (e : (#[.bool r, .bool c, .bool s] : Array Value).setIfInBounds j (.bool v) = #[.bool r', .bool c', .bool s']) :
    RkAt w (W.setCell ⟨w.heap.size + 1, j, none⟩ (.bool v)) r' c' s' :=
  ⟨h.res.apart (by omega) _ _, e ▸ h.kind.put j _, h.bel.setCell (p := ⟨w.heap.size + 1, j, none⟩) (Nat.le_succ _) _⟩
end Go.Proofs.Ytlhkkhojfndoiab.PRun
