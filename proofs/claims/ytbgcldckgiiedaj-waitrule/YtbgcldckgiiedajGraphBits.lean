/- graph.only, set.has and isNode, walked: each answers what the plain functions say, and nothing that was there has turned. Conditions: a node below 64. -/
import Derived.Test.YtbgcldckgiiedajGraphMem
import Derived.Laws.BitsAllLaws
namespace Go.Proofs.Ytbgcldckgiiedaj.PGraph
open Go Go.RowKit PPool
set_option maxRecDepth 100000

theorem pow_lt64 {k : Nat} (h : k < 64) : 2 ^ k < 18446744073709551616 := Nat.lt_of_lt_of_eq (Nat.pow_lt_pow_right (by omega) h) (by decide)
theorem cast_pow (k : Nat) : ((2 ^ k : Nat) : Int) = 2 ^ k := by simp

theorem only_any (w : World) (k : Nat) (hk : k < 64) :
    Calls Try.prog 34 #[.int .i64 (k : Int)] w fun e w' => e = .returned (.int .u64 ((2 ^ k : Nat) : Int)) ∧ Below w.heap.size w w' := by
  have h1 := pow_lt64 hk
  have e := cast_pow k
  have h2 : ∀ p : Nat, p < 18446744073709551616 → IntKind.u64.wrap (p : Int) = (p : Int) := fun p hp => by rw [IntKind.wrap_u64]; omega
  have h3 : IntKind.u64.wrap (2 ^ k) = ((2 ^ k : Nat) : Int) := by rw [← e]; exact h2 _ h1
  clear h2
  go_enter Try.func34, Try.ntmps34
  go_wp2_with fail
  go_ret
  exact ⟨rfl, Below.refl _ _⟩

theorem has_any (w : World) (s k : Nat) (hs : s < 18446744073709551616) (hk : k < 64) :
    Calls Try.prog 49 #[.int .u64 (s : Int), .int .i64 (k : Int)] w fun e w' => e = .returned (.bool (s.testBit k)) ∧ Below w.heap.size w w' := by
  have KO := hid fun W => only_any W k hk
  have h1 := pow_lt64 hk
  obtain ⟨p, hp⟩ : ∃ p, p = 2 ^ k := ⟨_, rfl⟩
  rw [← hp] at h1 KO
  have h2 : bits .and .u64 (s : Int) (p : Int) = ((s &&& p : Nat) : Int) := u64_and_nat s p hs h1
  have h3 : (((s &&& p : Nat) : Int) != 0) = s.testBit k := by
    have h4 := Gr.has_bit s k
    rw [← hp] at h4
    cases hb : s.testBit k with
    | false => rw [h4.2 hb]; rfl
    | true =>
      have : ¬ (s &&& p = 0) := fun e => by rw [h4.1 e] at hb; cases hb
      simp; omega
  obtain ⟨q, hq⟩ : ∃ q, q = s &&& p := ⟨_, rfl⟩
  rw [← hq] at h2 h3
  clear hq hp hk hs
  go_enter Try.func49, Try.ntmps49
  go_wp2_with fail
  refine (KO.out _).mono ?_
  rintro r w1 ⟨rfl, hb1⟩
  go_wp2_with fail
  go_ret
  exact ⟨rfl, hb1⟩

theorem isNode_any (w : World) (n k : Int) :
    Calls Try.prog 48 #[.int .i64 n, .int .i64 k] w fun e w' => e = .returned (.bool (Gr.node n k)) ∧ Below w.heap.size w w' := by
  unfold Gr.node
  by_cases h1 : 0 ≤ k
  · have j1 : decide (0 ≤ k) = true := by simpa using h1
    go_enter Try.func48, Try.ntmps48
    go_wp2_with fail
    go_ret
    exact ⟨by rw [j1, Bool.true_and]; rfl, Below.refl _ _⟩
  · have j1 : decide (0 ≤ k) = false := by simpa using h1
    go_enter Try.func48, Try.ntmps48
    go_wp2_with fail
    go_ret
    exact ⟨rfl, Below.refl _ _⟩
end Go.Proofs.Ytbgcldckgiiedaj.PGraph
