/-
  The plain arithmetic of sums (no program in it): the sum of a text's bytes, their sum by weights, both of texts that are joined, and that one or two other bytes make another sum of a text of at most 4096 bytes. No conditions but those that each theorem names.
-/
import Derived.WalkKit
namespace Go.Proofs.Ythfpinjegfgeiaa.PFold
namespace Fo

def S : List UInt8 → Nat
  | [] => 0
  | c :: r => c.toNat + S r
def W : List UInt8 → Nat
  | [] => 0
  | c :: r => c.toNat * (r.length + 1) + W r
/- the sum: two numbers -/
def A (l : List UInt8) : Nat := (1 + S l) % 65521
def B (l : List UInt8) : Nat := (l.length + W l) % 65521
def sum (l : List UInt8) : Nat := B l * 65536 + A l

theorem S_app (l r : List UInt8) : S (l ++ r) = S l + S r := by
  induction l with
  | nil => simp [S]
  | cons c l ih => simp only [List.cons_append, S, ih]; omega
theorem W_app (l r : List UInt8) : W (l ++ r) = W l + r.length * S l + W r := by
  induction l with
  | nil => simp [S, W]
  | cons c l ih =>
    simp only [List.cons_append, S, W, ih, List.length_append]
    rw [Nat.mul_add r.length, show l.length + r.length + 1 = (l.length + 1) + r.length from by omega, Nat.mul_add c.toNat, Nat.mul_comm r.length c.toNat]
    omega
theorem S_snoc (l : List UInt8) (c : UInt8) : S (l ++ [c]) = S l + c.toNat := by rw [S_app]; simp [S]
theorem W_snoc (l : List UInt8) (c : UInt8) : W (l ++ [c]) = W l + S l + c.toNat := by rw [W_app]; simp [W]
theorem S_le (l : List UInt8) : S l ≤ 255 * l.length := by
  induction l with
  | nil => simp [S]
  | cons c l ih => have := c.toNat_lt; simp only [S, List.length_cons]; omega

theorem A_lt (l : List UInt8) : A l < 65521 := Nat.mod_lt _ (by omega)
theorem B_lt (l : List UInt8) : B l < 65521 := Nat.mod_lt _ (by omega)
theorem A_step (l : List UInt8) (c : UInt8) : A (l ++ [c]) = (A l + c.toNat) % 65521 := by
  unfold A; rw [S_snoc]; omega
theorem B_step (l : List UInt8) (c : UInt8) : B (l ++ [c]) = (B l + A (l ++ [c])) % 65521 := by
  unfold B A; rw [S_snoc, W_snoc, List.length_append]; simp only [List.length_cons, List.length_nil]; omega
theorem sum_lt (l : List UInt8) : sum l < 4294967296 := by have := A_lt l; have := B_lt l; unfold sum; omega

/- the sum of two, one behind the other -/
def joinF (ax : Nat) : Nat := (ax + 65520) % 65521
def joinA (ax ay : Nat) : Nat := (joinF ax + ay) % 65521
def joinB (ax bx bY n : Nat) : Nat := (bx + bY + n * joinF ax) % 65521
theorem join_A (s t : List UInt8) : joinA (A s) (A t) = A (s ++ t) := by
  unfold joinA joinF A; rw [S_app]; omega
theorem join_B (s t : List UInt8) : joinB (A s) (B s) (B t) t.length = B (s ++ t) := by
  have hf : joinF (A s) = S s % 65521 := by unfold joinF A; omega
  unfold joinB; rw [hf]; unfold B
  rw [W_app, List.length_append]
  have e : (t.length * (S s % 65521)) % 65521 = (t.length * S s) % 65521 := by rw [Nat.mul_mod, Nat.mod_mod, ← Nat.mul_mod]
  generalize t.length * (S s % 65521) = x at *
  generalize t.length * S s = y at *
  omega

/- other bytes -/
theorem S_set (l : List UInt8) : ∀ (i : Nat) (a : UInt8) (h : i < l.length), (S (l.set i a) : Int) = S l + ((a.toNat : Int) - (l[i].toNat : Int)) := by
  induction l with
  | nil => intro i a h; simp at h
  | cons c l ih =>
    intro i a h
    cases i with
    | zero => simp only [List.set_cons_zero, S, List.getElem_cons_zero]; omega
    | succ i =>
      have := ih i a (by simpa using h)
      simp only [List.set_cons_succ, S, List.getElem_cons_succ]; omega
theorem W_set (l : List UInt8) : ∀ (i : Nat) (a : UInt8) (h : i < l.length), (W (l.set i a) : Int) = W l + ((a.toNat : Int) - (l[i].toNat : Int)) * ((l.length : Int) - (i : Int)) := by
  induction l with
  | nil => intro i a h; simp at h
  | cons c l ih =>
    intro i a h
    cases i with
    | zero =>
      simp only [List.set_cons_zero, W, List.getElem_cons_zero, List.length_cons]
      rw [show ((l.length + 1 : Nat) : Int) - ((0 : Nat) : Int) = ((l.length + 1 : Nat) : Int) from by omega, Int.sub_mul, ← Int.natCast_mul, ← Int.natCast_mul]
      omega
    | succ i =>
      have := ih i a (by simpa using h)
      simp only [List.set_cons_succ, W, List.getElem_cons_succ, List.length_cons, List.length_set]
      rw [show ((l.length + 1 : Nat) : Int) - ((i + 1 : Nat) : Int) = (l.length : Int) - (i : Int) from by omega]
      omega

theorem cop : ∀ d : Fin 256, d.val ≠ 0 → Nat.gcd 65521 d.val = 1 := by decide +kernel

theorem no_prod (d k : Int) (hd : d ≠ 0) (hd1 : d.natAbs ≤ 255) (hk1 : k.natAbs < 65521) (h : (65521 : Int) ∣ d * k) : k = 0 := by
  have h1 : 65521 ∣ d.natAbs * k.natAbs := by
    rw [← Int.natAbs_mul]; omega
  have hc : Nat.Coprime 65521 d.natAbs := cop ⟨d.natAbs, by omega⟩ (by simp; omega)
  have h2 : 65521 ∣ k.natAbs := hc.dvd_of_dvd_mul_left h1
  have := Nat.eq_zero_of_dvd_of_lt h2 hk1
  omega

theorem A_same {l k : List UInt8} (h : A l = A k) : (65521 : Int) ∣ ((S l : Int) - (S k : Int)) := by unfold A at h; omega
theorem B_same {l k : List UInt8} (hl : l.length = k.length) (h : B l = B k) : (65521 : Int) ∣ ((W l : Int) - (W k : Int)) := by unfold B at h; omega
theorem sum_same {l k : List UInt8} (h : sum l = sum k) : A l = A k ∧ B l = B k := by
  have := A_lt l; have := A_lt k; unfold sum at h; omega

theorem tells (l : List UInt8) (i j : Nat) (a b : UInt8) (hi : i < l.length) (hj : j < l.length) (hn : l.length ≤ 65521)
    (h : sum ((l.set i a).set j b) = sum l) : (l.set i a).set j b = l := by
  obtain ⟨hA, hB⟩ := sum_same h
  have dA := A_same hA
  have dB := B_same (by simp) hB
  have hj' : j < (l.set i a).length := by simpa using hj
  have s1 := S_set (l.set i a) j b hj'
  have s2 := S_set l i a hi
  have w1 := W_set (l.set i a) j b hj'
  have w2 := W_set l i a hi
  rw [List.length_set] at w1
  have := a.toNat_lt; have := b.toNat_lt; have := l[i].toNat_lt; have := l[j].toNat_lt
  by_cases hij : i = j
  · subst hij
    rw [List.set_set] at *
    have s3 := S_set l i b hi
    have : b.toNat = l[i].toNat := by omega
    have : b = l[i] := UInt8.toNat_inj.1 this
    rw [this]; exact List.set_getElem_self hi
  · have e : (l.set i a)[j]'hj' = l[j] := List.getElem_set_ne hij hj'
    rw [e] at s1 w1
    generalize hd : (a.toNat : Int) - (l[i].toNat : Int) = d at *
    generalize hf : (b.toNat : Int) - (l[j].toNat : Int) = f at *
    have hdf : f = -d := by omega
    rw [hdf] at w1
    rw [w1, w2] at dB
    have e2 : ((W l : Int) + d * ((l.length : Int) - (i : Int)) + -d * ((l.length : Int) - (j : Int))) - (W l : Int) = d * ((j : Int) - (i : Int)) := by
      rw [Int.mul_sub, Int.mul_sub, Int.mul_sub, Int.neg_mul, Int.neg_mul]; omega
    rw [e2] at dB
    by_cases h0 : d = 0
    · have h1 : a = l[i] := UInt8.toNat_inj.1 (by omega)
      have h2 : b = l[j] := UInt8.toNat_inj.1 (by omega)
      rw [h1, List.set_getElem_self hi, h2, List.set_getElem_self hj]
    · have := no_prod d _ h0 (by omega) (by omega) dB
      omega

/- four bytes -/
def four (n : Nat) : List UInt8 := [UInt8.ofNat (n / 16777216), UInt8.ofNat (n / 65536 % 256), UInt8.ofNat (n / 256 % 256), UInt8.ofNat (n % 256)]
theorem toNat_of (n : Nat) (h : n < 256) : (UInt8.ofNat n).toNat = n := by simp; omega
theorem four_inj {m n : Nat} (hm : m < 4294967296) (hn : n < 4294967296) (h : four m = four n) : m = n := by
  simp only [four, List.cons.injEq, and_true] at h
  obtain ⟨h1, h2, h3, h4⟩ := h
  have e1 := congrArg UInt8.toNat h1
  have e2 := congrArg UInt8.toNat h2
  have e3 := congrArg UInt8.toNat h3
  have e4 := congrArg UInt8.toNat h4
  rw [toNat_of _ (by omega), toNat_of _ (by omega)] at e1 e2 e3 e4
  omega
theorem four_len (n : Nat) : (four n).length = 4 := rfl
end Fo
end Go.Proofs.Ythfpinjegfgeiaa.PFold
