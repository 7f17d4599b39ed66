/- Rows and squares of twelve truths, as one value in memory: a cell, a row, a store, the whole. -/
import Derived.Test.YtjoaedkgjnchoanLockMem
import Derived.Deep.WholeRow
import Derived.Deep.MidRow
namespace Go.Proofs.Ytjoaedkgjnchoan.PLock
open Go Go.RowKit PPool
set_option maxRecDepth 100000

def bA (R : Nat → Bool) : Array Value := ((List.range 12).map fun t => Value.bool (R t)).toArray
def pA (R : Nat → Nat → Bool) : Array Value := ((List.range 12).flatMap fun s => (List.range 12).map fun t => Value.bool (R s t)).toArray
theorem bA_size (R : Nat → Bool) : (bA R).size = 12 := by simp [bA]
theorem pA_size (R : Nat → Nat → Bool) : (pA R).size = 144 := by
  unfold pA
  rw [List.size_toArray, flat_len (List.range 12) (c := 12) (fun s _ => by simp)]
  simp
theorem bools_info : (Try.prog.info? 99).map (fun i => (i.zero, i.size)) = some (some (.agg (bA fun _ => false)), 12) := by kernel_rfl
theorem pairs_info : (Try.prog.info? 100).map (fun i => (i.zero, i.size)) = some (some (.agg (pA fun _ _ => false)), 144) := by kernel_rfl

/-- An array that lies in a block of its own. -/
def ArrAt (w : World) (b : Nat) (A : Array Value) : Prop := ∃ T, w.heap[b]? = some (.cells A T (0, 0))
theorem ArrAt.below {w w' : World} {b : Nat} {A : Array Value} (h : ArrAt w b A) (hb : Below w.heap.size w w') : ArrAt w' b A := by
  obtain ⟨T, h⟩ := h
  exact ⟨T, (hb.block b (Array.getElem?_eq_some_iff.1 h).1).trans h⟩
theorem ArrAt.keep {w w' : World} {b : Nat} {A : Array Value} (h : ArrAt w b A) (hb : w'.heap[b]? = w.heap[b]?) : ArrAt w' b A := by
  obtain ⟨T, h⟩ := h
  exact ⟨T, hb.trans h⟩
theorem ArrAt.new (w : World) (A : Array Value) (T : TypeId) : ArrAt (w.alloc (.cells A T)) w.heap.size A := ⟨T, heap_alloc_new w _⟩
theorem ArrAt.cell {w : World} {b : Nat} {A : Array Value} (h : ArrAt w b A) {j : Nat} {v : Value} (hj : A[j]? = some v) : w.cell? ⟨b, j, none⟩ = some v := by
  obtain ⟨T, h⟩ := h
  rw [cell_of_row w b j A T _ h]; exact hj
theorem ArrAt.fz {w : World} {b : Nat} {A : Array Value} (h : ArrAt w b A) (i : Nat) : w.frozen? ⟨b, i, none⟩ = false := by
  obtain ⟨T, h⟩ := h
  simp [World.frozen?, h]
theorem ArrAt.put {w : World} {b : Nat} {A : Array Value} (h : ArrAt w b A) (j : Nat) (v : Value) : ArrAt (w.setCell ⟨b, j, none⟩ v) b (A.setIfInBounds j v) := by
  obtain ⟨T, h⟩ := h
  refine ⟨T, ?_⟩
  rw [setCell_eq_setRow w b j A T _ v h]
  exact setRow_heap w b A _ T _ h
theorem ArrAt.range {w : World} {b : Nat} {A : Array Value} (h : ArrAt w b A) : w.rangeAt b 0 A.toList := fun j v hv => by
  rw [Nat.zero_add]
  exact h.cell (by simpa using hv)
theorem ArrAt.there {w : World} {b : Nat} {A : Array Value} (h : ArrAt w b A) : w.there b 0 A.size := fun j hj => by
  rw [Nat.zero_add]
  exact ⟨by rw [h.cell (Array.getElem?_eq_getElem hj)]; rfl, h.fz j⟩
theorem bA_at (R : Nat → Bool) {t : Nat} (ht : t < 12) : (bA R)[t]? = some (.bool (R t)) := by simp [bA, ht]
theorem bA_set (R : Nat → Bool) (t : Nat) (c : Bool) : (bA R).setIfInBounds t (.bool c) = bA fun s => if s = t then c else R s := by
  apply Array.ext_getElem?
  intro j
  rw [Array.getElem?_setIfInBounds]
  by_cases hj : j < 12
  · rw [bA_at _ hj, bA_at _ hj]
    by_cases e : t = j
    · subst e; rw [if_pos rfl, if_pos (by rw [bA_size]; exact hj)]; simp
    · rw [if_neg e, if_neg (fun h => e h.symm)]
  · rw [Array.getElem?_eq_none (by rw [bA_size]; omega), Array.getElem?_eq_none (by rw [bA_size]; omega)]
    split
    · rw [if_neg (by rw [bA_size]; omega)]
    · rfl
theorem pA_at (R : Nat → Nat → Bool) {s t : Nat} (hs : s < 12) (ht : t < 12) : (pA R)[s * 12 + t]? = some (.bool (R s t)) := by
  unfold pA
  rw [List.getElem?_toArray]
  have h1 : (List.range 12)[s]? = some s := by rw [List.getElem?_range hs]
  exact flat_at (enc := fun s => (List.range 12).map fun t => Value.bool (R s t)) (c := 12) (List.range 12) (fun x _ => by simp) s s h1 t (.bool (R s t)) (by simp [ht])
theorem pA_out (R : Nat → Nat → Bool) {j : Nat} (h : 144 ≤ j) : (pA R)[j]? = none := Array.getElem?_eq_none (by rw [pA_size]; exact h)
def lay (R : Nat → Nat → Bool) (s t : Nat) (v : Bool) : Nat → Nat → Bool := fun a b => if a = s ∧ b = t then v else R a b
theorem pA_set (R : Nat → Nat → Bool) {s t : Nat} (hs : s < 12) (ht : t < 12) (v : Bool) : (pA R).setIfInBounds (s * 12 + t) (.bool v) = pA (lay R s t v) := by
  apply Array.ext_getElem?
  intro j
  rw [Array.getElem?_setIfInBounds]
  by_cases hj : j < 144
  · have e : j = j / 12 * 12 + j % 12 := by omega
    have h1 : j / 12 < 12 := by omega
    have h2 : j % 12 < 12 := by omega
    by_cases hjj : s * 12 + t = j
    · have e1 : j / 12 = s := by omega
      have e2 : j % 12 = t := by omega
      rw [if_pos hjj, if_pos (by rw [pA_size]; omega), ← hjj, pA_at _ hs ht]
      unfold lay
      rw [if_pos ⟨rfl, rfl⟩]
    · rw [if_neg hjj, e, pA_at _ h1 h2, pA_at _ h1 h2]
      unfold lay
      rw [if_neg (by omega)]
  · rw [pA_out _ (by omega), pA_out _ (by omega)]
    split
    · rw [if_neg (by rw [pA_size]; omega)]
    · rfl
theorem pA_row {R : Nat → Nat → Bool} {s : Nat} (hs : s < 12) {W : World} {b : Nat} (h : ArrAt W b (pA R)) : W.rangeAt b (s * 12) (bA (R s)).toList := fun j v hv => by
  have hj : j < 12 := by
    have := (List.getElem?_eq_some_iff.1 hv).1
    rwa [Array.length_toList, bA_size] at this
  rw [Array.getElem?_toList, bA_at _ hj] at hv
  injection hv with hv
  rw [← hv]
  exact h.cell (pA_at R hs hj)

theorem ArrAt.lt {W : World} {b : Nat} {A : Array Value} (h : ArrAt W b A) : b < W.heap.size := by
  obtain ⟨T, h⟩ := h
  exact (Array.getElem?_eq_some_iff.1 h).1
theorem ArrAt.drew {W : World} {b : Nat} {A : Array Value} (h : ArrAt W b A) : ArrAt W.drew b A := h
theorem ArrAt.apart {W : World} {b g : Nat} {A : Array Value} (h : ArrAt W b A) (hne : b ≠ g) (i : Nat) (v : Value) : ArrAt (W.setCell ⟨g, i, none⟩ v) b A :=
  h.keep (Below.heap_setCell _ _ _ _ hne)
theorem ArrAt.row {W : World} {b : Nat} {A : Array Value} (h : ArrAt W b A) (A' : Array Value) : ArrAt (W.setRow b A') b A' := by
  obtain ⟨T, h⟩ := h
  exact ⟨T, setRow_heap W b A A' T _ h⟩
theorem ArrAt.other {W : World} {b c : Nat} {A : Array Value} (h : ArrAt W b A) (A' : Array Value) (hne : b ≠ c) : ArrAt (W.setRow c A') b A := h.keep (setRow_other W c b A' hne)
theorem Below.row {B : Nat} {a w : World} (h : Below B a w) {g : Nat} (hg : B ≤ g) (A : Array Value) : Below B a (w.setRow g A) :=
  ⟨h.os, h.tape, h.output, by have := h.size; simpa [World.setRow] using this, fun k hk => (setRow_other w g k A (by omega)).trans (h.block k hk)⟩
def loadP (v : Value) : Sem Value := Instr.loadAt 100 v
theorem loadP_pre (v : Value) : Instr.loadAt 100 v = loadP v := rfl
theorem run_loadP {W : World} {b : Nat} {R : Nat → Nat → Bool} (h : ArrAt W b (pA R)) : (loadP (.pointer (some ⟨b, 0, none⟩))).run Try.prog W = .ok (.agg (pA R)) W := by
  have := run_loadAt_mid (P := Try.prog) W b 0 100 (pA R).toList _ h.range Try.underlying100 rfl (by rw [Array.length_toList, pA_size]; exact (zero_of_info pairs_info).2)
  rwa [Array.toArray_toList] at this
def storeP (v x : Value) : Sem Unit := Instr.storeAt 100 v x
theorem storeP_pre (v x : Value) : Instr.storeAt 100 v x = storeP v x := rfl
theorem pA_one (R : Nat → Nat → Bool) : (pA R).all (·.oneCell') = true := by
  refine Array.all_eq_true_iff_forall_mem.2 fun v hv => ?_
  simp only [pA, List.mem_toArray, List.mem_flatMap, List.mem_map] at hv
  obtain ⟨s, _, t, _, rfl⟩ := hv
  rfl
theorem run_storeP {W : World} {b : Nat} {R0 R : Nat → Nat → Bool} (h : ArrAt W b (pA R0)) : (storeP (.pointer (some ⟨b, 0, none⟩)) (.agg (pA R))).run Try.prog W = .ok () (W.setRow b (pA R)) := by
  obtain ⟨T, h⟩ := h
  have := run_storeVar_row (P := Try.prog) W b T 100 (pA R0) (pA R) h (by rw [pA_size]; exact (zero_of_info pairs_info).2) (by rw [pA_size, pA_size]) (pA_one R)
  unfold storeP
  simp only [Instr.storeAt, Instr.sureAddr, Sem.run_bind, Sem.run_pure, Result.andThen_ok, this]
theorem ArrAt.resultP {w : World} {b : Nat} {R : Nat → Nat → Bool} (h : ArrAt w b (pA R)) {fn : Func} {p : Tmp} (hf : fn.results = #[.cell p 100]) {tmps : Array Value} (hp : tmps.getD p undef = .pointer (some ⟨b, 0, none⟩)) :
    (results fn tmps).run Try.prog w = .ok (.agg (pA R)) w := by
  obtain ⟨T, h⟩ := h
  exact results_cell_row hf tmps w b T _ _ _ hp h Try.underlying100 rfl (by rw [pA_size]; exact (zero_of_info pairs_info).2)
/-- An array, or a struct, as the result; as the first of two. -/
theorem ArrAt.result1 {w : World} {b : Nat} {A : Array Value} {T : TypeId} {d : TypeDesc} (h : ArrAt w b A) {fn : Func} {p : Tmp} (hf : fn.results = #[.cell p T]) {tmps : Array Value} (hp : tmps.getD p undef = .pointer (some ⟨b, 0, none⟩))
    (hu : Try.prog.underlying T = some d) (hd : d.isRow = true) (hi : (Try.prog.info? T).map (·.size) = some A.size) : (results fn tmps).run Try.prog w = .ok (.agg A) w := by
  obtain ⟨T', h⟩ := h
  exact results_cell_row hf tmps w b T' _ _ _ hp h hu (by cases d <;> first | rfl | cases hd) hi
theorem ArrAt.result2 {w : World} {b : Nat} {A : Array Value} {T : TypeId} {d : TypeDesc} (h : ArrAt w b A) {fn : Func} {p u : Tmp} (hf : fn.results = #[.cell p T, .tmp u]) {tmps : Array Value} (hp : tmps.getD p undef = .pointer (some ⟨b, 0, none⟩))
    (hu : Try.prog.underlying T = some d) (hd : d.isRow = true) (hi : (Try.prog.info? T).map (·.size) = some A.size) {v : Value} (hv : tmps.getD u undef = v) :
    (results fn tmps).run Try.prog w = .ok (.tuple #[.agg A, v]) w := by
  obtain ⟨T', h⟩ := h
  rw [results_cell_tmp hf, hp, hv]
  simp only [asAddr, Sem.run_pure, Result.andThen_ok, run_loadVar_row w b T' T A (0, 0) d h hu (by cases d <;> first | rfl | cases hd) hi]
end Go.Proofs.Ytjoaedkgjnchoan.PLock
