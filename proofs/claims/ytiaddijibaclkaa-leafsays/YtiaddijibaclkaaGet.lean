/-
  code.GetNat, walked: for every text the call returns what 'Nb.getN' reads, and the world is as it was. Condition: the text's length is an int's.
-/
import Derived.Test.YtiaddijibaclkaaPut
namespace Go.Proofs.Ytiaddijibaclkaa.PCode
open Go.RowKit

theorem drop_at (s : ByteArray) (k : Nat) (h : k < s.size) : s.data.toList.drop k = s[k] :: s.data.toList.drop (k + 1) := by
  rw [List.drop_eq_getElem_cons (by simpa using h)]; rfl

theorem pow7 (k : Nat) : (2 : Nat) ^ (7 * k) = 128 ^ k := by
  rw [Nat.pow_mul]

theorem or_fact (acc k c : Nat) (ha : acc < 128 ^ k) (hb : acc + c % 128 * 128 ^ k < 18446744073709551616) :
    bits .or .u64 (acc : Int) (IntKind.u64.wrap ((c : Int) % 128 * 2 ^ (7 * k))) = ((acc + c % 128 * 128 ^ k : Nat) : Int) := by
  have e : ((c : Int) % 128 * 2 ^ (7 * k)) = ((c % 128 * 128 ^ k : Nat) : Int) := by
    rw [← pow7]; push_cast; rfl
  have h1 : c % 128 * 128 ^ k < 18446744073709551616 := by omega
  rw [e, IntWalk.u64_in _ ⟨by omega, by omega⟩, u64_or_nat _ _ (by omega) h1]
  congr 1
  rw [← pow7] at ha
  have := Nat.two_pow_add_eq_or_of_lt ha (c % 128)
  rw [pow7, Nat.mul_comm] at this
  rw [Nat.or_comm, ← this, Nat.add_comm]

theorem or_fact9 (acc k c : Nat) (h9 : (k : Int) = 9) (hc : (c : Int) ≤ 1) (ha : acc < 128 ^ k) :
    bits .or .u64 (acc : Int) ((c : Int) % 128 * 9223372036854775808) = ((acc + c % 128 * 128 ^ k : Nat) : Int) := by
  obtain rfl : k = 9 := by omega
  have h := or_fact acc 9 c ha (by rw [Nb.pow9] at *; omega)
  have e : IntKind.u64.wrap ((c : Int) % 128 * 2 ^ (7 * 9)) = (c : Int) % 128 * 9223372036854775808 := by
    have e2 : (2 : Int) ^ (7 * 9) = 9223372036854775808 := by decide
    rw [e2]
    exact IntWalk.u64_in _ ⟨by omega, by omega⟩
  rw [e] at h
  exact h

theorem or_fact0 (acc k c : Nat) (hk : ¬ 0 < k) (hc : c = 0) (ha : acc < 128 ^ k) :
    bits .or .u64 (acc : Int) (IntKind.u64.wrap 0) = ((acc + c % 128 * 128 ^ k : Nat) : Int) := by
  obtain rfl : k = 0 := by omega
  subst hc
  have h := or_fact acc 0 0 ha (by simp at *; omega)
  simpa using h

/- one step of the reading, a lemma a way -/
theorem step_large {s : ByteArray} {k acc : Nat} (h : k < s.size) (h9 : (k : Int) = 9) (h1 : (1 : Int) < (s[k].toNat : Int)) : Nb.getN k acc (s.data.toList.drop k) = (0, 0, 2) := by
  rw [drop_at s k h, Nb.getN, if_pos ⟨by omega, by omega⟩]
theorem step_more {s : ByteArray} {k acc : Nat} (h : k < s.size) (h9 : ¬ (k : Int) = 9) (h1 : (128 : Int) ≤ (s[k].toNat : Int)) :
    Nb.getN k acc (s.data.toList.drop k) = Nb.getN (k + 1) (acc + s[k].toNat % 128 * 128 ^ k) (s.data.toList.drop (k + 1)) := by
  rw [drop_at s k h, Nb.getN, if_neg (by omega), if_pos (by omega)]
theorem step_form {s : ByteArray} {k acc : Nat} (h : k < s.size) (h1 : s[k].toNat = 0) (hp : 0 < k) : Nb.getN k acc (s.data.toList.drop k) = (0, 0, 4) := by
  rw [drop_at s k h, Nb.getN, if_neg (by omega), if_neg (by omega), if_pos ⟨h1, hp⟩]
theorem step_end {s : ByteArray} {k acc : Nat} (h : k < s.size) (h9 : ¬ ((k : Int) = 9 ∧ (1 : Int) < (s[k].toNat : Int))) (h1 : (s[k].toNat : Int) < 128) (hp : ¬ (s[k].toNat = 0 ∧ 0 < k)) :
    Nb.getN k acc (s.data.toList.drop k) = (acc + s[k].toNat % 128 * 128 ^ k, k + 1, 0) := by
  rw [drop_at s k h, Nb.getN, if_neg (by omega), if_neg (by omega), if_neg hp]
theorem step_short {s : ByteArray} {k acc : Nat} (h : ¬ k < s.size) : Nb.getN k acc (s.data.toList.drop k) = (0, 0, 3) := by
  rw [List.drop_eq_nil_of_le (by simpa using Nat.le_of_not_lt h)]; rfl
theorem step_bound {k acc c : Nat} (hk : k ≤ 9) (ha : acc < 128 ^ k) (h9 : ¬ ((k : Int) = 9 ∧ (1 : Int) < (c : Int))) : acc + c % 128 * 128 ^ k < 18446744073709551616 := by
  by_cases h : k = 9
  · subst h
    have : c % 128 * 128 ^ 9 ≤ 1 * 128 ^ 9 := Nat.mul_le_mul_right _ (by omega)
    rw [Nb.pow9] at *; omega
  · have hp : (128 : Nat) ^ k ≤ 128 ^ 8 := Nat.pow_le_pow_right (by omega) (by omega)
    have e8 : (128 : Nat) ^ 8 = 72057594037927936 := by decide
    rw [e8] at hp
    have : c % 128 * 128 ^ k ≤ 127 * 72057594037927936 := Nat.mul_le_mul (by omega) hp
    omega
theorem step_grows {k acc c : Nat} (ha : acc < 128 ^ k) : acc + c % 128 * 128 ^ k < 128 ^ (k + 1) := by
  have : c % 128 * 128 ^ k ≤ 127 * 128 ^ k := Nat.mul_le_mul_right _ (by omega)
  rw [Nat.pow_succ]; omega
theorem ret3 {k0 k1 k2 : IntKind} {a b c a' b' c' : Int} (h0 : a = a') (h1 : b = b') (h2 : c = c') :
    Ending.returned (.tuple #[.int k0 a, .int k1 b, .int k2 c]) = .returned (.tuple #[.int k0 a', .int k1 b', .int k2 c']) := by rw [h0, h1, h2]

set_option maxRecDepth 100000 in
set_option maxHeartbeats 1000000 in
theorem getNat_any (s : ByteArray) (w : World) (hs : s.size ≤ maxLen) :
    Calls Try.prog 8 #[.string s] w fun e w' => e = .returned (.tuple #[.int .u64 (Nb.getN 0 0 s.data.toList).1, .int .i64 (Nb.getN 0 0 s.data.toList).2.1, .int .i64 (Nb.getN 0 0 s.data.toList).2.2]) ∧ w' = w := by
  unfold maxLen at hs
  generalize hG : Nb.getN 0 0 s.data.toList = G
  go_enter Try.func8, Try.ntmps8
  go_wp2
  go_loop [5, 6] (fun x i => ∃ k acc : Nat, k ≤ s.size ∧ k ≤ 9 ∧ i = .int .i64 (k : Int) ∧ x = .int .u64 (acc : Int) ∧ acc < 128 ^ k ∧ G = Nb.getN k acc (s.data.toList.drop k))
    (fun _ i => s.size - (intOf i).toNat)
  case atStart => exact ⟨0, 0, by omega, by omega, rfl, rfl, by simp, by rw [← hG]; rfl⟩
  case round =>
    obtain ⟨k, acc, hk, hk9, rfl, rfl, hacc, hd⟩ := hrel
    have HD : Hid (G = Nb.getN k acc (s.data.toList.drop k)) := hd
    clear hd hG
    by_cases hlt : k < s.size
    · have hc : (s[k].toNat : Int) < 256 := by have := s[k].toNat_lt; omega
      have HA : Hid (acc < 128 ^ k) := hacc
      clear hacc
      go_wp2
      · have h9 : (k : Int) = 9 := by assumption
        have h1 : (1 : Int) < (s[k].toNat : Int) := by assumption
        have hv : G = (0, 0, 2) := by rw [HD.out, step_large hlt h9 h1]
        go_ret3
        exact ⟨by rw [hv]; rfl, rfl⟩
      · have h9 : (k : Int) = 9 := by assumption
        have h0 : s[k].toNat = 0 := by assumption
        have hv : G = (0, 0, 4) := by rw [HD.out, step_form hlt h0 (by omega)]
        go_ret3
        exact ⟨by rw [hv]; rfl, rfl⟩
      · have h9 : (k : Int) = 9 := by assumption
        have h1 : (s[k].toNat : Int) ≤ 1 := by assumption
        have h0 : ¬ s[k].toNat = 0 := by assumption
        have hv := HD.out.trans (step_end hlt (by omega) (by omega) (by omega))
        have hor := or_fact9 acc k s[k].toNat h9 h1 HA.out
        go_ret3
        exact ⟨by rw [hv]; exact ret3 hor (by simp; omega) rfl, rfl⟩
      · have h9 : ¬ (k : Int) = 9 := by assumption
        have h128 : (128 : Int) ≤ (s[k].toNat : Int) := by assumption
        have hv := HD.out.trans (step_more hlt h9 h128)
        have hor := or_fact acc k s[k].toNat HA.out (step_bound hk9 HA.out (by omega))
        have hgr := step_grows (c := s[k].toNat) HA.out
        go_round
        case rel => exact ⟨k + 1, _, by omega, by omega, by go_num, by rw [hor], hgr, hv⟩
        case measure => simp [intOf]; omega
      · have h0 : s[k].toNat = 0 := by assumption
        have hp : 0 < k := by assumption
        have hv : G = (0, 0, 4) := by rw [HD.out, step_form hlt h0 hp]
        go_ret3
        exact ⟨by rw [hv]; rfl, rfl⟩
      · have hp : ¬ 0 < k := by assumption
        have h0 : s[k].toNat = 0 := by assumption
        have hv := HD.out.trans (step_end hlt (by omega) (by omega) (by omega))
        have hor := or_fact0 acc k s[k].toNat hp h0 HA.out
        go_ret3
        exact ⟨by rw [hv]; exact ret3 hor (by simp) rfl, rfl⟩
      · have h9 : ¬ (k : Int) = 9 := by assumption
        have h1 : (s[k].toNat : Int) < 128 := by assumption
        have h0 : ¬ s[k].toNat = 0 := by assumption
        have hv := HD.out.trans (step_end hlt (by omega) (by omega) (by omega))
        have hor := or_fact acc k s[k].toNat HA.out (step_bound hk9 HA.out (by omega))
        go_ret3
        exact ⟨by rw [hv]; exact ret3 hor (by simp) rfl, rfl⟩
    · have HV : Hid (G = (0, 0, 3)) := by show _ = _; rw [HD.out, step_short hlt]
      clear HD hacc
      go_wp2
      go_ret3
      exact ⟨by rw [HV.out]; rfl, rfl⟩
end Go.Proofs.Ytiaddijibaclkaa.PCode
