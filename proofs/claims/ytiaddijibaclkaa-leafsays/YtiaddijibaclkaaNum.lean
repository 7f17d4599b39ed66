/-
  The plain arithmetic of numbers as bytes (no program in it): a number's bytes, how they are read, that what is put is got, that what is read has just these bytes, that a greater number has no fewer. No conditions but those that each theorem names.
-/
import Derived.WalkKit
namespace Go.Proofs.Ytiaddijibaclkaa.PCode
namespace Nb

def natF : Nat → Nat → List UInt8
  | 0, n => [UInt8.ofNat n]
  | f + 1, n => if n < 128 then [UInt8.ofNat n] else UInt8.ofNat (n % 128 + 128) :: natF f (n / 128)
def natB (n : Nat) : List UInt8 := natF n n

theorem natF_lt {f n : Nat} (h : n < 128) : natF f n = [UInt8.ofNat n] := by
  cases f with
  | zero => rfl
  | succ f => rw [natF, if_pos h]
theorem natF_fuel : ∀ f g n : Nat, n ≤ f → n ≤ g → natF f n = natF g n := by
  intro f
  induction f with
  | zero => intro g n h _; rw [natF_lt (by omega), natF_lt (by omega)]
  | succ f ih =>
    intro g n h1 h2
    by_cases h : n < 128
    · rw [natF_lt h, natF_lt h]
    · cases g with
      | zero => omega
      | succ g => rw [natF, natF, if_neg h, if_neg h, ih g (n / 128) (by omega) (by omega)]

theorem natB_lt {n : Nat} (h : n < 128) : natB n = [UInt8.ofNat n] := natF_lt h
theorem natB_ge {n : Nat} (h : ¬ n < 128) : natB n = UInt8.ofNat (n % 128 + 128) :: natB (n / 128) := by
  cases n with
  | zero => omega
  | succ n =>
    show natF (n + 1) (n + 1) = _
    rw [natF, if_neg h, natB, natF_fuel n ((n + 1) / 128) ((n + 1) / 128) (by omega) (by omega)]

theorem natB_pos (n : Nat) : 1 ≤ (natB n).length := by
  by_cases h : n < 128
  · rw [natB_lt h]; simp
  · rw [natB_ge h]; simp

theorem natB_len (k : Nat) : ∀ n : Nat, n < 128 ^ (k + 1) → (natB n).length ≤ k + 1 := by
  induction k with
  | zero => intro n h; rw [natB_lt (by simpa using h)]; simp
  | succ k ih =>
    intro n h
    by_cases h1 : n < 128
    · rw [natB_lt h1]; simp
    · rw [natB_ge h1]
      have : n / 128 < 128 ^ (k + 1) := by
        rw [Nat.div_lt_iff_lt_mul (by omega), ← Nat.pow_succ]; exact h
      have := ih _ this
      simp; omega

theorem natB_len10 (n : Nat) (h : n < 18446744073709551616) : (natB n).length ≤ 10 :=
  natB_len 9 n (Nat.lt_trans h (by decide))

theorem natB_mono : ∀ n m : Nat, n ≤ m → (natB n).length ≤ (natB m).length := by
  intro n
  induction n using Nat.strongRecOn with
  | _ n ih =>
    intro m h
    by_cases h1 : n < 128
    · rw [natB_lt h1]; exact natB_pos m
    · rw [natB_ge h1, natB_ge (by omega : ¬ m < 128)]
      have := ih (n / 128) (by omega) (m / 128) (Nat.div_le_div_right h)
      simpa using this

/- what is read: the number, how many bytes it took, the error (0: none, 2: large, 3: short, 4: form) -/
def getN (i acc : Nat) : List UInt8 → Nat × Nat × Nat
  | [] => (0, 0, 3)
  | b :: r =>
    if i = 9 ∧ 1 < b.toNat then (0, 0, 2)
    else if 128 ≤ b.toNat then getN (i + 1) (acc + b.toNat % 128 * 128 ^ i) r
    else if b.toNat = 0 ∧ 0 < i then (0, 0, 4)
    else (acc + b.toNat % 128 * 128 ^ i, i + 1, 0)

theorem toNat_of (n : Nat) (h : n < 256) : (UInt8.ofNat n).toNat = n := by
  simp [UInt8.toNat_ofNat']; omega

theorem pow9 : (128 : Nat) ^ 9 = 9223372036854775808 := by decide

theorem get_put (n : Nat) : ∀ (i acc : Nat) (more : List UInt8), i ≤ 9 → n * 128 ^ i < 18446744073709551616 → (i = 0 ∨ 0 < n) →
    getN i acc (natB n ++ more) = (acc + n * 128 ^ i, i + (natB n).length, 0) := by
  induction n using Nat.strongRecOn with
  | _ n ih =>
    intro i acc more hi hb h0
    by_cases h1 : n < 128
    · rw [natB_lt h1]
      have e := toNat_of n (by omega)
      simp only [List.cons_append, List.nil_append, getN, e, List.length_cons, List.length_nil]
      have n9 : ¬ (i = 9 ∧ 1 < n) := by
        rintro ⟨rfl, h⟩; rw [pow9] at hb; omega
      rw [if_neg n9, if_neg (by omega), if_neg (by omega), Nat.mod_eq_of_lt h1]
    · rw [natB_ge h1]
      have e := toNat_of (n % 128 + 128) (by omega)
      simp only [List.cons_append, getN, e, List.length_cons]
      have i9 : ¬ i = 9 := by
        rintro rfl; rw [pow9] at hb; omega
      have hm : n = n % 128 + n / 128 * 128 := by omega
      have hp : n * 128 ^ i = n % 128 * 128 ^ i + n / 128 * 128 ^ (i + 1) := by
        rw [Nat.pow_succ, ← Nat.mul_assoc, Nat.mul_right_comm (n / 128), ← Nat.add_mul, ← hm]
      rw [if_neg (by omega), if_pos (by omega), ih (n / 128) (by omega) (i + 1) _ more (by omega) (by omega) (by omega)]
      have e2 : (n % 128 + 128) % 128 = n % 128 := by omega
      rw [e2]
      simp only [Prod.mk.injEq, and_true]
      omega

theorem get_only : ∀ (s : List UInt8) (i acc x k : Nat), getN i acc s = (x, k, 0) →
    ∃ m, x = acc + m * 128 ^ i ∧ natB m = s.take (k - i) ∧ i < k ∧ k ≤ i + s.length ∧ (i = 0 ∨ 0 < m) := by
  intro s
  induction s with
  | nil => intro i acc x k h; simp [getN] at h
  | cons b r ih =>
    intro i acc x k h
    have hb : b.toNat < 256 := b.toNat_lt
    simp only [getN] at h
    by_cases h1 : i = 9 ∧ 1 < b.toNat
    · rw [if_pos h1] at h; simp at h
    · rw [if_neg h1] at h
      by_cases h2 : 128 ≤ b.toNat
      · rw [if_pos h2] at h
        obtain ⟨m, hx, hm, hk, hk2, hp⟩ := ih _ _ _ _ h
        have hm0 : 0 < m := by omega
        refine ⟨b.toNat % 128 + 128 * m, ?_, ?_, by omega, by simp; omega, by omega⟩
        · rw [hx, Nat.add_mul, Nat.pow_succ]
          have : 128 * m * 128 ^ i = m * (128 ^ i * 128) := by
            rw [Nat.mul_comm 128 m, Nat.mul_assoc, Nat.mul_comm 128]
          omega
        · have e1 : (b.toNat % 128 + 128 * m) % 128 + 128 = b.toNat := by omega
          have e2 : (b.toNat % 128 + 128 * m) / 128 = m := by omega
          rw [natB_ge (by omega), e1, e2, hm]
          have e3 : k - i = (k - (i + 1)) + 1 := by omega
          rw [e3, List.take_succ_cons, UInt8.ofNat_toNat]
      · rw [if_neg h2] at h
        by_cases h3 : b.toNat = 0 ∧ 0 < i
        · rw [if_pos h3] at h; simp at h
        · rw [if_neg h3] at h
          simp only [Prod.mk.injEq, and_true] at h
          obtain ⟨hx, hk⟩ := h
          refine ⟨b.toNat, by rw [← hx, Nat.mod_eq_of_lt (by omega)], ?_, by omega, by simp; omega, by omega⟩
          have e3 : k - i = 0 + 1 := by omega
          rw [natB_lt (by omega), e3, List.take_succ_cons, List.take_zero, UInt8.ofNat_toNat]

/- how great what is read can be, and how many bytes it takes -/
theorem get_bound : ∀ (s : List UInt8) (i acc : Nat), i ≤ 9 → acc < 128 ^ i →
    (getN i acc s).1 < 18446744073709551616 ∧ (getN i acc s).2.1 ≤ i + s.length ∧ (getN i acc s).2.1 ≤ 10 ∧ (getN i acc s).2.2 ≤ 4 := by
  intro s
  induction s with
  | nil => intro i acc _ _; simp [getN]
  | cons b r ih =>
    intro i acc hi ha
    have hb : b.toNat < 256 := b.toNat_lt
    have hp : (128 : Nat) ^ i ≤ 128 ^ 9 := Nat.pow_le_pow_right (by omega) hi
    rw [pow9] at hp
    simp only [getN]
    by_cases h1 : i = 9 ∧ 1 < b.toNat
    · rw [if_pos h1]; simp
    · rw [if_neg h1]
      by_cases h2 : 128 ≤ b.toNat
      · rw [if_pos h2]
        have hs : acc + b.toNat % 128 * 128 ^ i < 128 ^ (i + 1) := by
          have : b.toNat % 128 * 128 ^ i ≤ 127 * 128 ^ i := Nat.mul_le_mul_right _ (by omega)
          rw [Nat.pow_succ]; omega
        have := ih (i + 1) _ (by omega) hs
        simp only [List.length_cons]
        omega
      · rw [if_neg h2]
        by_cases h3 : b.toNat = 0 ∧ 0 < i
        · rw [if_pos h3]; simp
        · rw [if_neg h3]
          have : acc + b.toNat % 128 * 128 ^ i < 18446744073709551616 := by
            by_cases h9 : i = 9
            · subst h9
              have : b.toNat % 128 * 128 ^ 9 ≤ 1 * 128 ^ 9 := Nat.mul_le_mul_right _ (by omega)
              rw [pow9] at *; omega
            · have hp8 : (128 : Nat) ^ i ≤ 128 ^ 8 := Nat.pow_le_pow_right (by omega) (by omega)
              have e8 : (128 : Nat) ^ 8 = 72057594037927936 := by decide
              rw [e8] at hp8
              have : b.toNat % 128 * 128 ^ i ≤ 127 * 72057594037927936 := Nat.mul_le_mul (by omega) hp8
              omega
          simp only [List.length_cons]
          omega

end Nb
end Go.Proofs.Ytiaddijibaclkaa.PCode
