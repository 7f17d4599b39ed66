/-
  fold.pack, split, Sum, sumText and Join, walked: each returns what the plain functions say. Sum and Join leave the world as it was. Conditions: an argument's own bounds.
-/
import Derived.Test.YthfpinjegfgeiaaFoldNum
import Derived.Test.YthfpinjegfgeiaaRows
import Derived.WalkKit
import Derived.Laws.BytesArg
import Derived.Lib.BufferRead
namespace Go.Proofs.Ythfpinjegfgeiaa.PFold
open Go.RowKit

def intOf : Value → Int | .int _ q => q | _ => 0

theorem take_snoc (s : ByteArray) (k : Nat) (h : k < s.size) : s.data.toList.take (k + 1) = s.data.toList.take k ++ [s[k]] := by
  rw [List.take_succ_eq_append_getElem (by simpa using h)]; rfl
theorem list_len (s : ByteArray) : s.data.toList.length = s.size := by rw [Array.length_toList]; rfl

set_option maxRecDepth 100000 in
theorem pack_any (a b : Int) (w : World) (ha0 : 0 ≤ a) (ha : a ≤ 65520) (hb0 : 0 ≤ b) (hb : b ≤ 65520) :
    Calls Try.prog 49 #[.int .u32 a, .int .u32 b] w fun e w' => e = .returned (.int .u32 (b * 65536 + a)) ∧ w' = w := by
  go_enter Try.func49, Try.ntmps49
  go_wp2_with fail
  go_ret
  exact ⟨rfl, rfl⟩

set_option maxRecDepth 100000 in
theorem split_any (x : Int) (w : World) (h0 : 0 ≤ x) (h1 : x ≤ 4294967295) :
    Calls Try.prog 48 #[.int .u32 x] w fun e w' => e = .returned (.tuple #[.int .u32 (x % 65536), .int .u32 (x / 65536)]) ∧ w' = w := by
  go_enter Try.func48, Try.ntmps48
  go_wp2_with fail
  go_ret2
  exact ⟨rfl, rfl⟩

set_option maxRecDepth 100000 in
set_option maxHeartbeats 1000000 in
theorem sum_any (s : ByteArray) (w : World) (hs : s.size ≤ maxLen) :
    Calls Try.prog 24 #[.string s] w fun e w' => e = .returned (.int .u32 (Fo.sum s.data.toList : Nat)) ∧ w' = w := by
  unfold maxLen at hs
  go_enter Try.func24, Try.ntmps24
  go_wp2_with fail
  go_loop [3, 4, 5] (fun a b i => ∃ k : Nat, k ≤ s.size ∧ i = .int .i64 (k : Int) ∧ a = .int .u32 (Fo.A (s.data.toList.take k) : Nat) ∧ b = .int .u32 (Fo.B (s.data.toList.take k) : Nat))
    (fun _ _ i => s.size - (intOf i).toNat)
  case atStart => exact ⟨0, by omega, rfl, rfl, rfl⟩
  case round =>
    obtain ⟨k, hk, rfl, rfl, rfl⟩ := hrel
    have hA : ((Fo.A (s.data.toList.take k) : Nat) : Int) ≤ 65520 := by have := Fo.A_lt (s.data.toList.take k); omega
    have hB : ((Fo.B (s.data.toList.take k) : Nat) : Int) ≤ 65520 := by have := Fo.B_lt (s.data.toList.take k); omega
    by_cases hlt : k < s.size
    · have hc : (s[k].toNat : Int) < 256 := by have := s[k].toNat_lt; omega
      have HA : Hid ((((Fo.A (s.data.toList.take k) : Nat) : Int) + (s[k].toNat : Int)) % 65521 = ((Fo.A (s.data.toList.take (k + 1)) : Nat) : Int)) := by
        show _ = _; rw [take_snoc s k hlt, Fo.A_step]; omega
      have HB : Hid ((((Fo.B (s.data.toList.take k) : Nat) : Int) + ((Fo.A (s.data.toList.take (k + 1)) : Nat) : Int)) % 65521 = ((Fo.B (s.data.toList.take (k + 1)) : Nat) : Int)) := by
        show _ = _; rw [take_snoc s k hlt, Fo.B_step]; omega
      have hA0 : 0 ≤ ((Fo.A (s.data.toList.take k) : Nat) : Int) := by omega
      have hB0 : 0 ≤ ((Fo.B (s.data.toList.take k) : Nat) : Int) := by omega
      generalize ((Fo.A (s.data.toList.take k) : Nat) : Int) = a at *
      generalize ((Fo.B (s.data.toList.take k) : Nat) : Int) = b at *
      go_wp2_with fail
      go_round
      case rel => exact ⟨k + 1, by omega, by go_num, by rw [HA.out], by rw [← HB.out, ← HA.out]⟩
      case measure => simp [intOf]; omega
    · obtain rfl : k = s.size := by omega
      have e : s.data.toList.take s.size = s.data.toList := List.take_of_length_le (by rw [list_len]; omega)
      rw [e] at hA hB ⊢
      have HS : Hid (((Fo.sum s.data.toList : Nat) : Int) = ((Fo.B s.data.toList : Nat) : Int) * 65536 + ((Fo.A s.data.toList : Nat) : Int)) := by show _ = _; unfold Fo.sum; omega
      have hA0 : 0 ≤ ((Fo.A s.data.toList : Nat) : Int) := by omega
      have hB0 : 0 ≤ ((Fo.B s.data.toList : Nat) : Int) := by omega
      generalize ((Fo.A s.data.toList : Nat) : Int) = a at *
      generalize ((Fo.B s.data.toList : Nat) : Int) = b at *
      go_wp2_with (go_at_call 49; refine (pack_any a b _ hA0 hA hB0 hB).mono ?_; rintro r w' ⟨rfl, rfl⟩)
      go_ret
      exact ⟨by rw [HS.out]; rfl, rfl⟩
end Go.Proofs.Ythfpinjegfgeiaa.PFold
