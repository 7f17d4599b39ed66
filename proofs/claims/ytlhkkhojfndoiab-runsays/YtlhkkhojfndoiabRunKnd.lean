/- run.Kinds, walked: it answers what the plain functions say, and nothing that was there has turned. Condition: the operations lie where their slice says. -/
import Derived.Test.YtlhkkhojfndoiabRunAll
namespace Go.Proofs.Ytlhkkhojfndoiab.PRun
open Go Go.RowKit PPool PGraph
set_option maxRecDepth 100000

theorem pA_at (R : Nat → Nat → Bool) {s t : Nat} (hs : s < 12) (ht : t < 12) : (pA R)[s * 12 + t]? = some (.bool (R s t)) := by
  unfold pA
  rw [List.getElem?_toArray]
  have h1 : (List.range 12)[s]? = some s := by rw [List.getElem?_range hs]
  exact flat_at (enc := fun s => (List.range 12).map fun t => Value.bool (R s t)) (c := 12) (List.range 12) (fun x _ => by simp) s s h1 t (.bool (R s t)) (by simp [ht])
theorem pA_out (R : Nat → Nat → Bool) {j : Nat} (h : 144 ≤ j) : (pA R)[j]? = none := Array.getElem?_eq_none (by rw [pA_size]; exact h)
def lay (R : Nat → Nat → Bool) (s t : Nat) (v : Bool) : Nat → Nat → Bool := fun a b => if a = s ∧ b = t then v else R a b
theorem pA_set (R : Nat → Nat → Bool) {s t : Nat} (hs : s < 12) (ht : t < 12) (v : Bool) : (pA R).setIfInBounds (s * 12 + t) (.bool v) = pA (lay R s t v) := by
  apply Array.ext_getElem?
  intro j
  rw [Array.getElem?_setIfInBounds]
  by_cases hj : j < 144
  · have e : j = j / 12 * 12 + j % 12 := by omega
    have h1 : j / 12 < 12 := by omega
    have h2 : j % 12 < 12 := by omega
    by_cases hjj : s * 12 + t = j
    · have e1 : j / 12 = s := by omega
      have e2 : j % 12 = t := by omega
      rw [if_pos hjj, if_pos (by rw [pA_size]; omega), ← hjj, pA_at _ hs ht]
      unfold lay
      rw [if_pos ⟨rfl, rfl⟩]
    · rw [if_neg hjj, e, pA_at _ h1 h2, pA_at _ h1 h2]
      unfold lay
      rw [if_neg (by omega)]
  · rw [pA_out _ (by omega), pA_out _ (by omega)]
    split
    · rw [if_neg (by rw [pA_size]; omega)]
    · rfl
theorem pA_row {R : Nat → Nat → Bool} {s : Nat} (hs : s < 12) {W : World} {b : Nat} (h : ArrAt W b (pA R)) : W.rangeAt b (s * 12) (bA (R s)).toList := fun j v hv => by
  have hj : j < 12 := by
    have := (List.getElem?_eq_some_iff.1 hv).1
    rwa [Array.length_toList, bA_size] at this
  rw [Array.getElem?_toList, bA_at _ hj] at hv
  injection hv with hv
  rw [← hv]
  exact h.cell (pA_at R hs hj)

/-- How all stands while the kinds are looked at. -/
structure KAt (w W : World) (N : Nat) (r c s : Bool) (E : Nat → Int) (R : Nat → Nat → Bool) : Prop where
  res : ArrAt W w.heap.size #[.bool false, .bool false, .bool false]
  kind : ArrAt W N #[.bool r, .bool c, .bool s]
  en : ArrAt W (N + 1) (eA E)
  rd : ArrAt W (N + 2) (pA R)
  bel : Below w.heap.size w W
  lt : w.heap.size < N
theorem ArrAt.lt {W : World} {b : Nat} {A : Array Value} (h : ArrAt W b A) : b < W.heap.size := by
  obtain ⟨T, h⟩ := h
  exact (Array.getElem?_eq_some_iff.1 h).1
theorem ArrAt.drew {W : World} {b : Nat} {A : Array Value} (h : ArrAt W b A) : ArrAt W.drew b A := h
theorem ArrAt.apart {W : World} {b g : Nat} {A : Array Value} (h : ArrAt W b A) (hne : b ≠ g) (i : Nat) (v : Value) : ArrAt (W.setCell ⟨g, i, none⟩ v) b A :=
  h.keep (Below.heap_setCell _ _ _ _ hne)
theorem KAt.below {w W W' : World} {N : Nat} {r c s : Bool} {E : Nat → Int} {R : Nat → Nat → Bool} (h : KAt w W N r c s E R) (hb : Below W.heap.size W W') : KAt w W' N r c s E R :=
  ⟨h.res.below hb, h.kind.below hb, h.en.below hb, h.rd.below hb, below_tr h.bel hb, h.lt⟩
theorem KAt.drew {w W : World} {N : Nat} {r c s : Bool} {E : Nat → Int} {R : Nat → Nat → Bool} (h : KAt w W N r c s E R) : KAt w W.drew N r c s E R :=
  ⟨h.res.drew, h.kind.drew, h.en.drew, h.rd.drew, h.bel.drew, h.lt⟩
theorem KAt.put {w W : World} {N : Nat} {r c s : Bool} {E : Nat → Int} {R : Nat → Nat → Bool} (h : KAt w W N r c s E R) (j : Nat) (v : Bool) {r' c' s' : Bool} (e : (#[.bool r, .bool c, .bool s] : Array Value).setIfInBounds j (.bool v) = #[.bool r', .bool c', .bool s']) :
    KAt w (W.setCell ⟨N, j, none⟩ (.bool v)) N r' c' s' E R :=
  ⟨h.res.apart (by have := h.lt; omega) _ _, e ▸ h.kind.put j _, h.en.apart (by omega) _ _, h.rd.apart (by omega) _ _, h.bel.setCell (p := ⟨N, j, none⟩) (Nat.le_of_lt h.lt) _, h.lt⟩
theorem KAt.lay {w W : World} {N : Nat} {r c s : Bool} {E : Nat → Int} {R : Nat → Nat → Bool} (h : KAt w W N r c s E R) {a b : Nat} (ha : a < 12) (hb : b < 12) (v : Bool) :
    KAt w (W.setCell ⟨N + 2, a * 12 + b, none⟩ (.bool v)) N r c s E (Go.Proofs.Ytlhkkhojfndoiab.PRun.lay R a b v) :=
  ⟨h.res.apart (by have := h.lt; omega) _ _, h.kind.apart (by omega) _ _, h.en.apart (by omega) _ _, by rw [← pA_set R ha hb v]; exact h.rd.put _ _, h.bel.setCell (p := ⟨N + 2, a * 12 + b, none⟩) (by have := h.lt; show _ ≤ N + 2; omega) _, h.lt⟩
theorem KAt.row {w W : World} {N : Nat} {r c s : Bool} {E : Nat → Int} {R : Nat → Nat → Bool} (h : KAt w W N r c s E R) (E' : Nat → Int) :
    KAt w (W.setRow (N + 1) (eA E')) N r c s E' R :=
  ⟨h.res.other _ (by have := h.lt; omega), h.kind.other _ (by omega), h.en.row _, h.rd.other _ (by omega), Below.row h.bel (by have := h.lt; omega) _, h.lt⟩

/-! What one operation makes of the three. -/
theorem lastW_mem {X : List Rn.Op} {E : Nat → Int} {it t : Int} : ∀ k, Rn.lastW X E it k = some t → ∃ q ∈ X, q.x = t
  | 0, h => by cases h
  | k + 1, h => by
    simp only [Rn.lastW] at h
    split at h
    · rename_i q hq
      split at h
      · injection h with h
        exact ⟨q, List.mem_of_getElem? hq, h⟩
      · exact lastW_mem k h
    · exact lastW_mem k h
theorem from_lo_some {p : List Rn.Op} {o : Rn.Op} (h : loB p (Rn.ends p) o = true) : ∃ f, loV p (Rn.ends p) o = some f ∧ f ≠ o.x ∧ Rn.from_ p o = some f ∧ Rn.item o = true ∧ ∃ q ∈ p, q.x = f := by
  unfold loB othB at h
  unfold loV at h ⊢
  unfold Rn.from_
  cases hi : Rn.item o with
  | false => rw [hi] at h; simp at h
  | true =>
    rw [hi, if_pos rfl] at h
    rw [if_pos rfl, if_pos rfl]
    cases hl : Rn.lastW p (Rn.ends p) o.i p.length with
    | none => rw [hl] at h; cases h
    | some f =>
      rw [hl] at h
      have hf : f ≠ o.x := by simpa using h
      exact ⟨f, rfl, hf, by simp only; rw [if_neg hf], rfl, lastW_mem _ hl⟩
theorem from_lo_none {p : List Rn.Op} {o : Rn.Op} (h : loB p (Rn.ends p) o = false) : Rn.from_ p o = none := by
  unfold loB othB loV at h
  unfold Rn.from_
  cases hi : Rn.item o with
  | false => rfl
  | true =>
    rw [hi, if_pos rfl] at h
    rw [if_pos rfl]
    cases hl : Rn.lastW p (Rn.ends p) o.i p.length with
    | none => rfl
    | some f =>
      rw [hl] at h
      have hf : f = o.x := by simpa using h
      simp only; rw [if_pos hf]
theorem recB_step {X : List Rn.Op} {k : Nat} {o : Rn.Op} (ho : X[k]? = some o) : Rn.recB X (k + 1) = (Rn.recB X k && (!decide (o.k = 3) || allCom (Rn.ends (X.take k)) (Rn.reads X k o.x.toNat) 12)) := by
  unfold Rn.recB
  rw [Rn.All_next ho]
  rfl
theorem strB_none {X : List Rn.Op} {k : Nat} {o : Rn.Op} (ho : X[k]? = some o) (h : Rn.from_ (X.take k) o = none) : Rn.strB X (k + 1) = Rn.strB X k ∧ Rn.casB X (k + 1) = Rn.casB X k ∧ Rn.reads X (k + 1) = Rn.reads X k := by
  refine ⟨?_, ?_, ?_⟩
  · unfold Rn.strB; rw [Rn.All_next ho]; unfold Rn.strAt; rw [h]; simp
  · unfold Rn.casB; rw [Rn.All_next ho]; unfold Rn.casAt; rw [h]; simp
  · funext t f; rw [Rn.reads_next ho, h]; simp
theorem strB_some {X : List Rn.Op} {k : Nat} {o : Rn.Op} {f : Nat} (ho : X[k]? = some o) (h : Rn.from_ (X.take k) o = some (f : Int)) :
    Rn.strB X (k + 1) = (Rn.strB X k && decide (Rn.ends (X.take k) f = 3)) ∧ Rn.casB X (k + 1) = (Rn.casB X k && (decide (Rn.ends (X.take k) f = 3) || decide (o.k = 2))) := by
  refine ⟨?_, ?_⟩
  · unfold Rn.strB; rw [Rn.All_next ho]; unfold Rn.strAt; rw [h]; rfl
  · unfold Rn.casB; rw [Rn.All_next ho]; unfold Rn.casAt; rw [h]; rfl
theorem reads_read {X : List Rn.Op} {k : Nat} {o : Rn.Op} {f : Nat} (ho : X[k]? = some o) (h : Rn.from_ (X.take k) o = some (f : Int)) (hk : o.k = 1) (h0 : 0 ≤ o.x) : Rn.reads X (k + 1) = lay (Rn.reads X k) o.x.toNat f true := by
  funext t g
  rw [Rn.reads_next ho, h, hk]
  unfold lay
  by_cases e : t = o.x.toNat ∧ g = f
  · rw [if_pos e]
    have e1 : o.x = (t : Int) := by omega
    simp [e1, e.2]
  · rw [if_neg e]
    by_cases e1 : o.x = (t : Int)
    · have e2 : ¬ f = g := fun h => e ⟨by omega, h.symm⟩
      have e3 : decide (@some Int (f : Int) = some (g : Int)) = false := decide_eq_false (by intro h; injection h with h; omega)
      rw [e3, Bool.and_false, Bool.or_false]
    · simp [e1]
theorem reads_not {X : List Rn.Op} {k : Nat} {o : Rn.Op} (ho : X[k]? = some o) (hk : ¬ o.k = 1) : Rn.reads X (k + 1) = Rn.reads X k := by
  funext t f
  rw [Rn.reads_next ho]
  simp [hk]
end Go.Proofs.Ytlhkkhojfndoiab.PRun
