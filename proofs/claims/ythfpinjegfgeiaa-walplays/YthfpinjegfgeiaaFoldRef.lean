/-
  The document's own answers (quirref.Fold, FoldPut, FoldGet), walked: of a text of at most 2^28 bytes each returns what the program's call returns (a longer one may make Fold's sum of weights pass 2^64: see REPORT.md). Condition: that length.
-/
import Derived.Test.YthfpinjegfgeiaaFoldGet
namespace Go.Proofs.Ythfpinjegfgeiaa.PFold
open Go.RowKit

namespace Fo
/- the weights of a text's beginning l, of n bytes in all -/
def P (n : Nat) (l : List UInt8) : Nat := W l + (n - l.length) * S l
theorem P_step (n : Nat) (l : List UInt8) (c : UInt8) (h : l.length < n) : P n (l ++ [c]) = P n l + c.toNat * (n - l.length) := by
  unfold P
  rw [W_snoc, S_snoc, List.length_append]
  simp only [List.length_cons, List.length_nil]
  obtain ⟨m, hm⟩ : ∃ m, n - l.length = m + 1 := ⟨n - l.length - 1, by omega⟩
  rw [hm, show n - (l.length + (0 + 1)) = m from by omega, Nat.add_mul, Nat.mul_add m, Nat.mul_add c.toNat, Nat.mul_comm m c.toNat]
  omega
theorem P_all (l : List UInt8) : P l.length l = W l := by unfold P; simp
theorem W_le (l : List UInt8) : W l ≤ l.length * S l := by
  induction l with
  | nil => simp [W]
  | cons c r ih =>
    simp only [W, S, List.length_cons]
    rw [Nat.mul_add (r.length + 1), Nat.mul_comm c.toNat, Nat.add_mul r.length 1 (S r)]
    omega
theorem P_le (n : Nat) (l : List UInt8) (h : l.length ≤ n) : P n l ≤ n * S l := by
  have h1 := W_le l
  unfold P
  have : n * S l = l.length * S l + (n - l.length) * S l := by rw [← Nat.add_mul]; congr 1; omega
  omega
theorem P_bound (n : Nat) (l : List UInt8) (h : l.length ≤ n) (hn : n ≤ 268435456) : P n l ≤ 18374686479671623680 := by
  have h1 := P_le n l h
  have h2 := S_le l
  have h3 : n * S l ≤ 268435456 * 68451041280 := Nat.mul_le_mul hn (by omega)
  omega
end Fo

theorem take_len (s : ByteArray) (k : Nat) (h : k ≤ s.size) : (s.data.toList.take k).length = k := by
  have := list_len s
  rw [List.length_take]; omega

set_option maxRecDepth 100000 in
set_option maxHeartbeats 1000000 in
theorem ref_any (s : ByteArray) (w : World) (hs : s.size ≤ 268435456) :
    Calls Try.prog 25 #[.string s] w fun e w' => e = .returned (.int .u32 (Fo.sum s.data.toList : Nat)) ∧ w' = w := by
  have hs' : (s.size : Int) ≤ 268435456 := by omega
  go_enter Try.func25, Try.ntmps25
  go_wp2_with fail
  go_loop [3, 4, 11] (fun a b i => ∃ k : Nat, k ≤ s.size ∧ i = .int .i64 (k : Int) ∧ a = .int .u64 ((1 + Fo.S (s.data.toList.take k) : Nat) : Int) ∧ b = .int .u64 ((s.size + Fo.P s.size (s.data.toList.take k) : Nat) : Int))
    (fun _ _ i => s.size - (intOf i).toNat)
  case atStart => exact ⟨0, by omega, rfl, rfl, by simp [Fo.P, Fo.W, Fo.S]⟩
  case round =>
    obtain ⟨k, hk, rfl, rfl, rfl⟩ := hrel
    have hlen := take_len s k hk
    have hS := Fo.S_le (s.data.toList.take k)
    have hP := Fo.P_bound s.size (s.data.toList.take k) (by omega) hs
    by_cases hlt : k < s.size
    · have hc : (s[k].toNat : Int) < 256 := by have := s[k].toNat_lt; omega
      have hc0 : 0 ≤ (s[k].toNat : Int) := by omega
      have hstep : Fo.P s.size (s.data.toList.take (k + 1)) = Fo.P s.size (s.data.toList.take k) + s[k].toNat * (s.size - k) := by
        rw [take_snoc s k hlt, Fo.P_step _ _ _ (by omega), hlen]
      have hP1 := Fo.P_bound s.size (s.data.toList.take (k + 1)) (by rw [take_len s _ (by omega)]; omega) hs
      have hm : (s[k].toNat : Int) * ((s.size : Int) - (k : Int)) = ((s[k].toNat * (s.size - k) : Nat) : Int) := by
        rw [Int.natCast_mul, Int.natCast_sub (by omega)]
      have HA : Hid (((1 + Fo.S (s.data.toList.take k) : Nat) : Int) + (s[k].toNat : Int) = ((1 + Fo.S (s.data.toList.take (k + 1)) : Nat) : Int)) := by
        show _ = _; rw [take_snoc s k hlt, Fo.S_snoc]; omega
      have HB : Hid (((s.size + Fo.P s.size (s.data.toList.take k) : Nat) : Int) + (s[k].toNat : Int) * ((s.size : Int) - (k : Int)) = ((s.size + Fo.P s.size (s.data.toList.take (k + 1)) : Nat) : Int)) := by
        show _ = _; rw [hstep, hm]; omega
      have m0 : 0 ≤ (s[k].toNat : Int) * ((s.size : Int) - (k : Int)) := by omega
      have m1 : (s[k].toNat : Int) * ((s.size : Int) - (k : Int)) ≤ 18446744073709551615 := by omega
      have m2 : ((s.size + Fo.P s.size (s.data.toList.take k) : Nat) : Int) + (s[k].toNat : Int) * ((s.size : Int) - (k : Int)) ≤ 18446744073709551615 := by omega
      have a0 : 0 ≤ ((1 + Fo.S (s.data.toList.take k) : Nat) : Int) := by omega
      have a1 : ((1 + Fo.S (s.data.toList.take k) : Nat) : Int) ≤ 68451041281 := by omega
      have b0 : 0 ≤ ((s.size + Fo.P s.size (s.data.toList.take k) : Nat) : Int) := by omega
      have b1 : ((s.size + Fo.P s.size (s.data.toList.take k) : Nat) : Int) ≤ 18446744073709551615 := by omega
      clear hstep hP1 hm hP hS hlen
      generalize ((1 + Fo.S (s.data.toList.take k) : Nat) : Int) = a at *
      generalize ((s.size + Fo.P s.size (s.data.toList.take k) : Nat) : Int) = b at *
      go_wp2_with fail
      go_round
      case rel => exact ⟨k + 1, by omega, by go_num, by rw [HA.out], by rw [← HB.out]⟩
      case measure => simp [intOf]; omega
    · obtain rfl : k = s.size := by omega
      have e : s.data.toList.take s.size = s.data.toList := List.take_of_length_le (by rw [list_len]; omega)
      rw [e] at hP hS hlen ⊢
      have HS : Hid (((Fo.sum s.data.toList : Nat) : Int) = ((s.size + Fo.P s.size s.data.toList : Nat) : Int) % 65521 * 65536 + ((1 + Fo.S s.data.toList : Nat) : Int) % 65521) := by
        show _ = _
        have hp : Fo.P s.size s.data.toList = Fo.W s.data.toList := by rw [← hlen, Fo.P_all]
        rw [hp]; unfold Fo.sum Fo.B Fo.A; rw [hlen]; omega
      have a0 : 0 ≤ ((1 + Fo.S s.data.toList : Nat) : Int) := by omega
      have a1 : ((1 + Fo.S s.data.toList : Nat) : Int) ≤ 68451041281 := by omega
      have b0 : 0 ≤ ((s.size + Fo.P s.size s.data.toList : Nat) : Int) := by omega
      have b1 : ((s.size + Fo.P s.size s.data.toList : Nat) : Int) ≤ 18446744073709551615 := by omega
      clear hP hS hlen e
      generalize ((1 + Fo.S s.data.toList : Nat) : Int) = a at *
      generalize ((s.size + Fo.P s.size s.data.toList : Nat) : Int) = b at *
      go_wp2_with fail
      go_ret
      exact ⟨by rw [HS.out]; rfl, rfl⟩
end Go.Proofs.Ythfpinjegfgeiaa.PFold
