/- quirref.Rest, walked: it answers the rest from 0 on; the world stays as it is. Conditions: a divisor above 0. -/
import Derived.Test.YtbgcldckgiiedajGraphMem
namespace Go.Proofs.Ytbgcldckgiiedaj.PWait
open Go Go.RowKit PPool
set_option maxRecDepth 100000

set_option maxRecDepth 100000 in
theorem rest_any (a n : Int) (w : World) (hn0 : 0 < n) (hn1 : n ≤ 140737488355328) :
    Calls Try.prog 7 #[.int .i64 a, .int .i64 n] w fun e w' => e = .returned (.int .i64 (a % n)) ∧ w' = w := by
  have t1 : a.tmod n < n := Int.tmod_lt_of_pos a hn0
  have t0 : -n < a.tmod n := by
    rcases Int.le_total 0 a with h | h
    · have := Int.tmod_nonneg n h; omega
    · have e : a.tmod n = -((-a).tmod n) := by rw [Int.neg_tmod, Int.neg_neg]
      have := Int.tmod_lt_of_pos (-a) hn0
      omega
  have HE : Hid ((a.tmod n + n) % n = a % n) := by
    show _ = _
    have e : a.tmod n = a + n * -(a.tdiv n) := by have := Int.tmod_add_mul_tdiv a n; rw [Int.mul_neg]; omega
    rw [Int.add_emod_right, e, Int.add_mul_emod_self_left]
  go_enter Try.func7, Try.ntmps7
  go_wp2_with fail
  go_ret
  exact ⟨by rw [← HE.out]; rfl, rfl⟩
end Go.Proofs.Ytbgcldckgiiedaj.PWait
