/- What the four calls of package pool answer, side by side. -/
import Derived.Test.YtlcpioeobnjcdaaPoolFar
import Derived.Test.YtlcpioeobnjcdaaPoolClock
namespace Go.Proofs.Ytlcpioeobnjcdaa.PPool
open Go Go.RowKit
set_option maxRecDepth 100000

theorem row_new {α : Type} {enc : α → Value} (w : World) (T : TypeId) (X : List α) : RowAt enc (w.alloc (.cells (X.map enc).toArray T)) (some ⟨w.heap.size, 0, none⟩) X := fun j x hj => by
  refine ⟨w.heap.size, 0, rfl, ?_⟩
  rw [cell_of_row _ _ _ _ _ _ (heap_alloc_new w _)]
  simp [hj]

theorem out_eq {S : Type} (R : Pl.Rule S) (s0 : S) {size : Int} {refs : List Int} (h : chk size refs.length = 0) : out R s0 size refs = ((R.run size.toNat (s0, []) refs).1, (R.run size.toNat (s0, []) refs).2.2) := by unfold out; rw [if_pos h]
theorem out_len {S : Type} (R : Pl.Rule S) (s0 : S) (size : Int) (refs : List Int) : (out R s0 size refs).1.length ≤ 2000 := by
  unfold out
  split
  · rename_i h
    show (R.run size.toNat (s0, []) refs).1.length ≤ 2000
    rw [run_len]; exact (chk_zero h).2.2.2
  · exact Nat.zero_le _

theorem Ans.take {w w' : World} {e : Ending} {y : Int} {O : List Bool × List Int} (h : Ans w w' e y O) : ∃ a1 c1 a2 c2, e = .returned (.tuple #[.slice a1 O.1.length c1, .slice a2 O.2.length c2, .int .i64 y]) ∧ Hid (BoolsAt w' a1 O.1) ∧ Hid (IntsAt w' a2 O.2) ∧ Hid (O.2.length ≤ c2) ∧ Hid (Below w.heap.size w w') := by
  obtain ⟨⟨a1, c1, a2, c2, e, h1, h2, h3⟩, hb⟩ := h
  exact ⟨a1, c1, a2, c2, e, h1, h2, h3, hb⟩
theorem below_to {w w1 w2 : World} (h : Below w.heap.size w w1) (k : Below w1.heap.size w1 w2) : Hid (Below w.heap.size w w2) := below_tr h k

/-- The four calls. -/
def fnOf : Nat → Nat | 0 => 63 | 1 => 64 | 2 => 65 | _ => 66
def outOf (size : Int) (refs : List Int) : Nat → List Bool × List Int | 0 => out Pl.fifoR () size refs | 1 => out Pl.lruR () size refs | 2 => out Pl.bestR () size refs | _ => out Pl.clockR (List.replicate 50 false, 0) size refs
theorem of_any (k : Nat) (w : World) (size : Int) (a : Option Addr) (c : Nat) (refs : List Int) (h : IntsAt w a refs) (hcap : refs.length ≤ c) :
    Calls Try.prog (fnOf k) #[.int .i64 size, .slice a refs.length c] w fun e w' => Ans w w' e (chk size refs.length) (outOf size refs k) := by
  match k with
  | 0 => exact fifo_any w size a c refs h
  | 1 => exact lru_any w size a c refs h
  | 2 => exact best_any w size a c refs h hcap
  | _ + 3 => exact clock_any w size a c refs h
theorem of_ent (k : Nat) (args : Array Value) (W : World) : (callFunc (fnOf k) args).run Try.prog W = .ok (.enter (fnOf k) args) W := by
  match k with
  | 0 => rfl
  | 1 => rfl
  | 2 => rfl
  | _ + 3 => rfl
theorem of_bad (k : Nat) {size : Int} {refs : List Int} (h : chk size refs.length ≠ 0) : outOf size refs k = ([], []) := by
  match k with
  | 0 => exact if_neg h
  | 1 => exact if_neg h
  | 2 => exact if_neg h
  | _ + 3 => exact if_neg h
end Go.Proofs.Ytlcpioeobnjcdaa.PPool
