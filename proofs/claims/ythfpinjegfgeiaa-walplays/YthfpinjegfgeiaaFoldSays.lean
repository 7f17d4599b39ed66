/-
  quirlaw.FoldSays: for every text of at most 2^28 bytes, all two uint32 and every int the call returns true, and what was handed in reads as before. Condition: that length.
-/
import Derived.Test.YthfpinjegfgeiaaFoldRef
import Derived.OpenShut
namespace Go.Proofs.Ythfpinjegfgeiaa.PFold
open Go.RowKit

def putF (s : ByteArray) : ByteArray × Nat := if 4096 < s.size then (⟨#[]⟩, 2) else (s ++ sumB s, 0)

theorem put_any (s : ByteArray) (w : World) :
    Calls Try.prog 19 #[.string s] w fun e w' => e = .returned (.tuple #[.string (putF s).1, .int .i64 (putF s).2]) ∧ Below w.heap.size w w' := by
  by_cases h : 4096 < s.size
  · rw [putF, if_pos h]
    exact (put_large s w h).mono fun e w' h => ⟨h.1, h.2 ▸ Below.refl _ _⟩
  · rw [putF, if_neg h]
    exact put_fits s w (by omega)

set_option maxRecDepth 100000 in
theorem refPut_large (s : ByteArray) (w : World) (h : 4096 < s.size) :
    Calls Try.prog 20 #[.string s] w fun e w' => e = .returned (.tuple #[.string ⟨#[]⟩, .int .i64 2]) ∧ w' = w := by
  have h' : (4096 : Int) < (s.size : Int) := by omega
  go_enter Try.func20, Try.ntmps20
  go_wp2_with fail
  go_ret2
  exact ⟨rfl, rfl⟩

set_option maxRecDepth 100000 in
set_option maxHeartbeats 1000000 in
theorem refPut_fits (s : ByteArray) (w : World) (h : s.size ≤ 4096) :
    Calls Try.prog 20 #[.string s] w fun e w' => e = .returned (.tuple #[.string (s ++ sumB s), .int .i64 0]) ∧ Below w.heap.size w w' := by
  have h' : (s.size : Int) ≤ 4096 := by omega
  have H := hide fun W => ref_any s W (by omega)
  have hn := Fo.sum_lt s.data.toList
  unfold sumB
  generalize Fo.sum s.data.toList = n at *
  have hc := conv_alloc n hn
  have hn' : (n : Int) ≤ 4294967295 := by omega
  have hq : (⟨(Fo.four n).toArray⟩ : ByteArray).size = 4 := rfl
  have hlim : ¬ (9223372036854775807 < s.size + (⟨(Fo.four n).toArray⟩ : ByteArray).size) := by omega
  generalize (⟨(Fo.four n).toArray⟩ : ByteArray) = q at *
  clear hq
  go_enter Try.func20, Try.ntmps20
  go_wp2_with fail
  refine (H.out _).mono ?_
  rintro r w1 ⟨rfl, rfl⟩
  go_wp2_with fail
  go_ret2
  exact ⟨rfl, (Below.refl _ _).alloc (Nat.le_refl _) _⟩

theorem refPut_any (s : ByteArray) (w : World) :
    Calls Try.prog 20 #[.string s] w fun e w' => e = .returned (.tuple #[.string (putF s).1, .int .i64 (putF s).2]) ∧ Below w.heap.size w w' := by
  by_cases h : 4096 < s.size
  · rw [putF, if_pos h]
    exact (refPut_large s w h).mono fun e w' h => ⟨h.1, h.2 ▸ Below.refl _ _⟩
  · rw [putF, if_neg h]
    exact refPut_fits s w (by omega)

theorem halves (s : ByteArray) (n : Nat) : s.extract 0 n ++ s.extract n s.size = s := by
  apply Go.WideShapes.bytes_inj
  rw [ByteArray.data_append, Array.toList_append, Lib.extract_data, Lib.extract_data, List.drop_zero, Nat.sub_zero]
  have hd : (s.data.toList.drop n).take (s.size - n) = s.data.toList.drop n := List.take_of_length_le (by rw [List.length_drop, list_len]; omega)
  rw [hd, List.take_append_drop]

set_option maxRecDepth 100000 in
theorem refGet_short (s : ByteArray) (w : World) (h : s.size < 4) :
    Calls Try.prog 22 #[.string s] w fun e w' => e = .returned (.tuple #[.string ⟨#[]⟩, .int .i64 3]) ∧ w' = w := by
  have h' : (s.size : Int) < 4 := by omega
  go_enter Try.func22, Try.ntmps22
  go_wp2_with fail
  go_ret2
  exact ⟨rfl, rfl⟩

set_option maxRecDepth 100000 in
theorem refGet_large (s : ByteArray) (w : World) (h : 4100 < s.size) :
    Calls Try.prog 22 #[.string s] w fun e w' => e = .returned (.tuple #[.string ⟨#[]⟩, .int .i64 2]) ∧ w' = w := by
  have h' : (4100 : Int) < (s.size : Int) := by omega
  go_enter Try.func22, Try.ntmps22
  go_wp2_with fail
  go_ret2
  exact ⟨rfl, rfl⟩

set_option maxRecDepth 100000 in
set_option maxHeartbeats 1000000 in
theorem refGet_mid (s : ByteArray) (w : World) (P q V : ByteArray) (G : Int) (h : 4 ≤ s.size) (h1 : s.size ≤ 4100) (hP : P = s.extract 0 (s.size - 4)) (hq : q = sumB P)
    (hV : ((P ++ q).toList == s.toList) = true ∧ V = P ∧ G = 0 ∨ ((P ++ q).toList == s.toList) = false ∧ V = ⟨#[]⟩ ∧ G = 5) :
    Calls Try.prog 22 #[.string s] w fun e w' => e = .returned (.tuple #[.string V, .int .i64 G]) ∧ Below w.heap.size w w' := by
  have h' : (4 : Int) ≤ (s.size : Int) := by omega
  have h1' : (s.size : Int) ≤ 4100 := by omega
  have e1 := fun W => cut_to s ((s.size : Int) - 4) (by omega) (by omega) W
  rw [show ((s.size : Int) - 4).toNat = s.size - 4 from by omega, ← hP] at e1
  have H := hide fun W => refPut_fits P W (by rw [hP, ByteArray.size_extract]; omega)
  rw [← hq] at H
  clear hP hq
  generalize P ++ q = R at *
  rcases hV with ⟨hb, rfl, rfl⟩ | ⟨hb, rfl, rfl⟩
  · go_enter Try.func22, Try.ntmps22
    go_wp2_with fail
    refine (H.out _).mono ?_
    rintro r w1 ⟨rfl, hb1⟩
    go_wp2_with fail
    go_ret2
    exact ⟨rfl, hb1⟩
  · go_enter Try.func22, Try.ntmps22
    go_wp2_with fail
    refine (H.out _).mono ?_
    rintro r w1 ⟨rfl, hb1⟩
    go_wp2_with fail
    go_ret2
    exact ⟨rfl, hb1⟩

theorem refGet_any (s : ByteArray) (w : World) :
    Calls Try.prog 22 #[.string s] w fun e w' => e = .returned (.tuple #[.string (getF s).1, .int .i64 (getF s).2]) ∧ Below w.heap.size w w' := by
  by_cases h0 : s.size < 4
  · rw [getF, if_pos h0]
    exact (refGet_short s w h0).mono fun e w' h => ⟨h.1, h.2 ▸ Below.refl _ _⟩
  · by_cases h1 : 4100 < s.size
    · rw [getF, if_neg h0, if_pos h1]
      exact (refGet_large s w h1).mono fun e w' h => ⟨h.1, h.2 ▸ Below.refl _ _⟩
    · have hh := halves s (s.size - 4)
      by_cases h2 : (sumB (s.extract 0 (s.size - 4))).data.toList = (s.extract (s.size - 4) s.size).data.toList
      · rw [getF, if_neg h0, if_neg h1, if_pos h2]
        refine refGet_mid s w _ _ _ _ (by omega) (by omega) rfl rfl (Or.inl ⟨?_, rfl, rfl⟩)
        rw [Go.WideShapes.bytes_inj h2, hh]; simp
      · rw [getF, if_neg h0, if_neg h1, if_neg h2]
        refine refGet_mid s w _ _ _ _ (by omega) (by omega) rfl rfl (Or.inr ⟨?_, rfl, rfl⟩)
        rw [beq_eq_false_iff_ne, Lib.toList_data, Lib.toList_data]
        intro h
        have e := congrArg (fun x : ByteArray => x.data.toList) hh
        rw [← h] at e
        simp only [ByteArray.data_append, Array.toList_append] at e
        exact h2 (List.append_cancel_left e).symm

set_option maxRecDepth 100000 in
set_option maxHeartbeats 2000000 in
theorem says_bad (s : ByteArray) (x y n : Int) (w : World) (hs : s.size ≤ 268435456) (hx0 : 0 ≤ x) (hx1 : x ≤ 4294967295) (hy0 : 0 ≤ y) (hy1 : y ≤ 4294967295)
    (h : n < 0 ∨ 4096 < n ∨ 65521 ≤ x % 65536 ∨ 65521 ≤ x / 65536 ∨ 65521 ≤ y % 65536 ∨ 65521 ≤ y / 65536) :
    Calls Try.prog 4 #[.string s, .int .u32 x, .int .u32 y, .int .i64 n] w fun r w' => r = .returned (.bool true) ∧ Below w.heap.size w w' := by
  have C1 := hide fun W => put_any s W
  have C2 := hide fun W => refPut_any s W
  have C3 := hide fun W => get_any s W (by omega)
  have C4 := hide fun W => refGet_any s W
  have C5 := hide fun W => join_bad x y n W hx0 hx1 hy0 hy1 h
  have C6 := hide fun W => sum_any s W (by unfold maxLen; omega)
  have C7 := hide fun W => ref_any s W hs
  generalize putF s = A at *
  generalize getF s = G at *
  generalize ((Fo.sum s.data.toList : Nat) : Int) = z at *
  have k0 : 0 ≤ x / 65536 ∧ x / 65536 ≤ 65535 := by omega
  have k1 : 0 ≤ x % 65536 ∧ x % 65536 ≤ 65535 := by omega
  have k2 : 0 ≤ y / 65536 ∧ y / 65536 ≤ 65535 := by omega
  have k3 : 0 ≤ y % 65536 ∧ y % 65536 ≤ 65535 := by omega
  have hm := fun W => max_four #[36, 36, 36, 36] 36 .u32 (x / 65536) (x % 65536) (y / 65536) (y % 65536) W
  have hl := mx_four (x / 65536) (x % 65536) (y / 65536) (y % 65536) 65521
  generalize mx (mx (mx (x / 65536) (x % 65536)) (y / 65536)) (y % 65536) = m at *
  have h' : n < 0 ∨ 4096 < n ∨ 65520 < m := by
    have : 65521 ≤ x / 65536 ∨ 65521 ≤ x % 65536 ∨ 65521 ≤ y / 65536 ∨ 65521 ≤ y % 65536 → 65521 ≤ m := hl.2
    omega
  clear h hl
  go_enter Try.func4, Try.ntmps4
  go_wp2_with fail
  refine (C1.out _).mono ?_
  rintro r w1 ⟨rfl, hb1⟩
  go_wp2_with fail
  refine (C2.out _).mono ?_
  rintro r w2 ⟨rfl, hb2⟩
  go_wp2_with fail
  refine (C3.out _).mono ?_
  rintro r w3 ⟨rfl, hb3⟩
  go_wp2_with fail
  refine (C4.out _).mono ?_
  rintro r w4 ⟨rfl, hb4⟩
  go_wp2_with fail
  refine (C5.out _).mono ?_
  rintro r w5 ⟨rfl, rfl⟩
  go_wp2_with fail
  refine (C6.out _).mono ?_
  rintro r w6 ⟨rfl, rfl⟩
  go_wp2_with fail
  refine (C7.out _).mono ?_
  rintro r w7 ⟨rfl, rfl⟩
  have hB := chain (chain (chain hb1 hb2) hb3) hb4
  clear hb1 hb2 hb3 hb4 C1 C2 C3 C4 C5 C6 C7
  go_wp2_with fail
  all_goals first | (go_ret; exact ⟨rfl, hB⟩) | (exfalso; omega)

theorem join_form (x y n : Int) (W : World) (hx0 : 0 ≤ x) (hx1 : x ≤ 4294967295) (hy0 : 0 ≤ y) (hy1 : y ≤ 4294967295)
    (h0 : 0 ≤ n) (h1 : n ≤ 4096) (h2 : x % 65536 ≤ 65520) (h3 : x / 65536 ≤ 65520) (h4 : y % 65536 ≤ 65520) (h5 : y / 65536 ≤ 65520) :
    Calls Try.prog 23 #[.int .u32 x, .int .u32 y, .int .i64 n] W fun e w' =>
      e = .returned (.tuple #[.int .u32 ((x / 65536 + y / 65536 + (x % 65536 - 1) % 65521 * n) % 65521 * 65536 + (x % 65536 - 1 + y % 65536) % 65521), .int .i64 0]) ∧ w' = W := by
  have h := join_good x y n W hx0 hx1 hy0 hy1 h0 h1 h2 h3 h4 h5
  have e : (x % 65536 + 65520) % 65521 = (x % 65536 - 1) % 65521 := by omega
  rw [e, Int.mul_comm n] at h
  rw [show (x % 65536 - 1 + y % 65536) % 65521 = ((x % 65536 - 1) % 65521 + y % 65536) % 65521 from by omega]
  exact h

set_option maxRecDepth 100000 in
set_option maxHeartbeats 2000000 in
theorem says_good (s : ByteArray) (x y n : Int) (w : World) (hs : s.size ≤ 268435456) (hx0 : 0 ≤ x) (hx1 : x ≤ 4294967295) (hy0 : 0 ≤ y) (hy1 : y ≤ 4294967295)
    (h0 : 0 ≤ n) (h1 : n ≤ 4096) (h2 : x % 65536 ≤ 65520) (h3 : x / 65536 ≤ 65520) (h4 : y % 65536 ≤ 65520) (h5 : y / 65536 ≤ 65520) :
    Calls Try.prog 4 #[.string s, .int .u32 x, .int .u32 y, .int .i64 n] w fun r w' => r = .returned (.bool true) ∧ Below w.heap.size w w' := by
  have C1 := hide fun W => put_any s W
  have C2 := hide fun W => refPut_any s W
  have C3 := hide fun W => get_any s W (by omega)
  have C4 := hide fun W => refGet_any s W
  have C5 := hide fun W => join_form x y n W hx0 hx1 hy0 hy1 h0 h1 h2 h3 h4 h5
  have C6 := hide fun W => sum_any s W (by unfold maxLen; omega)
  have C7 := hide fun W => ref_any s W hs
  generalize putF s = A at *
  generalize getF s = G at *
  generalize ((Fo.sum s.data.toList : Nat) : Int) = z at *
  have k0 : 0 ≤ x / 65536 := by omega
  have k1 : 0 ≤ x % 65536 := by omega
  have k2 : 0 ≤ y / 65536 := by omega
  have k3 : 0 ≤ y % 65536 := by omega
  have hm := fun W => max_four #[36, 36, 36, 36] 36 .u32 (x / 65536) (x % 65536) (y / 65536) (y % 65536) W
  have hl := mx_four (x / 65536) (x % 65536) (y / 65536) (y % 65536) 65521
  generalize mx (mx (mx (x / 65536) (x % 65536)) (y / 65536)) (y % 65536) = m at *
  have h' : m ≤ 65520 := by omega
  clear hl
  have f0 : 0 ≤ (x % 65536 - 1) % 65521 := by omega
  have f1 : (x % 65536 - 1) % 65521 ≤ 65520 := by omega
  have g0 : 0 ≤ (x % 65536 - 1) % 65521 * n := Int.mul_nonneg f0 h0
  have g1 : (x % 65536 - 1) % 65521 * n ≤ 65520 * 4096 := Int.mul_le_mul f1 h1 h0 (by omega)
  have R1 := hide fun W => rest_any (x % 65536 - 1 + y % 65536) 65521 W (by omega) (by omega)
  have R2 := hide fun W => rest_any (x % 65536 - 1) 65521 W (by omega) (by omega)
  have R3 := hide fun W => rest_any (x / 65536 + y / 65536 + (x % 65536 - 1) % 65521 * n) 65521 W (by omega) (by omega)
  have lo0 : 0 ≤ (x % 65536 - 1 + y % 65536) % 65521 := by omega
  have lo1 : (x % 65536 - 1 + y % 65536) % 65521 ≤ 65520 := by omega
  have up0 : 0 ≤ (x / 65536 + y / 65536 + (x % 65536 - 1) % 65521 * n) % 65521 := by omega
  have up1 : (x / 65536 + y / 65536 + (x % 65536 - 1) % 65521 * n) % 65521 ≤ 65520 := by omega
  generalize (x % 65536 - 1 + y % 65536) % 65521 = lo at *
  generalize (x / 65536 + y / 65536 + (x % 65536 - 1) % 65521 * n) % 65521 = up at *
  generalize (x % 65536 - 1) % 65521 = fi at *
  go_enter Try.func4, Try.ntmps4
  go_wp2_with fail
  refine (C1.out _).mono ?_
  rintro r w1 ⟨rfl, hb1⟩
  go_wp2_with fail
  refine (C2.out _).mono ?_
  rintro r w2 ⟨rfl, hb2⟩
  go_wp2_with fail
  refine (C3.out _).mono ?_
  rintro r w3 ⟨rfl, hb3⟩
  go_wp2_with fail
  refine (C4.out _).mono ?_
  rintro r w4 ⟨rfl, hb4⟩
  go_wp2_with fail
  refine (C5.out _).mono ?_
  rintro r w5 ⟨rfl, rfl⟩
  go_wp2_with fail
  refine (C6.out _).mono ?_
  rintro r w6 ⟨rfl, rfl⟩
  go_wp2_with fail
  refine (C7.out _).mono ?_
  rintro r w7 ⟨rfl, rfl⟩
  have hB := chain (chain (chain hb1 hb2) hb3) hb4
  clear hb1 hb2 hb3 hb4 C1 C2 C3 C4 C5 C6 C7
  go_wp2_with fail
  refine (R1.out _).mono ?_
  rintro r w8 ⟨rfl, rfl⟩
  go_wp2_with fail
  refine (R2.out _).mono ?_
  rintro r w9 ⟨rfl, rfl⟩
  go_wp2_with fail
  refine (R3.out _).mono ?_
  rintro r w10 ⟨rfl, rfl⟩
  go_wp2_with fail
  go_ret
  exact ⟨rfl, hB⟩

theorem says_walk (a0 : ByteArray) (a1 a2 a3 : Int) (h0 : a0.size ≤ 1048576) (w1 : (Lit.int .u32 a1).wf = true) (w2 : (Lit.int .u32 a2).wf = true) (_ : (Lit.int .i64 a3).wf = true) (w : World) :
    Calls Try.prog 4 #[.string a0, .int .u32 a1, .int .u32 a2, .int .i64 a3] w fun e w' => e = .returned (.bool true) ∧ Below w.heap.size w w' := by
  have b1 := bounds_u32 w1
  have b2 := bounds_u32 w2
  by_cases h : a3 < 0 ∨ 4096 < a3 ∨ 65521 ≤ a1 % 65536 ∨ 65521 ≤ a1 / 65536 ∨ 65521 ≤ a2 % 65536 ∨ 65521 ≤ a2 / 65536
  · exact says_bad a0 a1 a2 a3 w (by omega) b1.1 b1.2 b2.1 b2.2 h
  · exact says_good a0 a1 a2 a3 w (by omega) b1.1 b1.2 b2.1 b2.2 (by omega) (by omega) (by omega) (by omega) (by omega) (by omega)
end Go.Proofs.Ythfpinjegfgeiaa.PFold
