/-
  quirkeep.CodeBack: for every uint64, every int and all two texts, each of at most 2^47 bytes, the call returns true, and what was handed in reads as before. Condition: the texts' lengths (the row's own reach gives them).
-/
import Derived.Test.YtemchlnlmkggjaeRest
import Derived.WalkLawsBesides
import Derived.OpenShut
namespace Go.Proofs.Ytemchlnlmkggjae
open Go.RowKit

namespace Nb
theorem getN_put (n : Nat) (more : List UInt8) (h : n < 18446744073709551616) : getN 0 0 (natB n ++ more) = (n, (natB n).length, 0) := by
  rw [get_put n 0 0 more (by omega) (by simpa using h) (Or.inl rfl)]; simp

theorem zag_zig (k : Int) : zag (zig k) = k := by
  unfold zag zig
  by_cases h : 0 ≤ k
  · rw [if_pos h, if_pos (by omega)]; omega
  · rw [if_neg h, if_neg (by omega)]; omega

theorem zig_lt (k : Int) (h0 : -9223372036854775808 ≤ k) (h1 : k ≤ 9223372036854775807) : zig k < 18446744073709551616 := by
  unfold zig
  split <;> omega

theorem getI_put (k : Int) (more : List UInt8) (h0 : -9223372036854775808 ≤ k) (h1 : k ≤ 9223372036854775807) : getI (natB (zig k) ++ more) = (k, (natB (zig k)).length, 0) := by
  unfold getI
  rw [getN_put _ _ (zig_lt k h0 h1)]
  simp [zag_zig]
end Nb

theorem data_cat (l : List UInt8) (s : ByteArray) : (⟨l.toArray⟩ ++ s : ByteArray).data.toList = l ++ s.data.toList := by
  rw [ByteArray.data_append, Array.toList_append]

theorem size_cat (l : List UInt8) (s : ByteArray) : (⟨l.toArray⟩ ++ s : ByteArray).size = l.length + s.size := by
  rw [ByteArray.size_append]
  have : (⟨l.toArray⟩ : ByteArray).size = l.length := List.size_toArray
  rw [this]

theorem cut_back (l : List UInt8) (s more : ByteArray) : ((⟨l.toArray⟩ ++ s) ++ more : ByteArray).extract l.length (l.length + s.size) = s := by
  apply Go.WideShapes.bytes_inj
  rw [Lib.extract_data, ByteArray.data_append, Array.toList_append, data_cat, List.append_assoc, List.drop_left' rfl, Nat.add_sub_cancel_left]
  have : s.size = s.data.toList.length := by rw [Array.length_toList]; rfl
  rw [this, List.take_left' rfl]

theorem getT_put (s more : ByteArray) (h : s.size ≤ 4096) : Nb.getT ((⟨(Nb.natB s.size).toArray⟩ ++ s) ++ more) = (s, (Nb.natB s.size).length + s.size, 0) := by
  have hg : Nb.getN 0 0 ((⟨(Nb.natB s.size).toArray⟩ ++ s) ++ more : ByteArray).data.toList = (s.size, (Nb.natB s.size).length, 0) := by
    rw [ByteArray.data_append, Array.toList_append, data_cat, List.append_assoc, Nb.getN_put _ _ (by omega)]
  unfold Nb.getT
  rw [hg]
  simp only [if_true]
  rw [if_neg (by omega), if_neg (by rw [ByteArray.size_append, size_cat]; omega), cut_back]

theorem chain {a b c : World} (h : Below a.heap.size a b) (k : Below b.heap.size b c) : Below a.heap.size a c := h.trans (k.mono h.size)

theorem put300 (w : World) : Calls Try.prog 5 #[.int .u64 300] w fun e w' => e = .returned (.string ⟨#[172, 2]⟩) ∧ Below w.heap.size w w' := by
  have h := putNat_int 300 w (by omega) (by omega)
  have e : Nb.natB (300 : Int).toNat = [172, 2] := by decide
  rw [e] at h
  exact h
theorem putM3 (w : World) : Calls Try.prog 6 #[.int .i64 (-3)] w fun e w' => e = .returned (.string ⟨#[5]⟩) ∧ Below w.heap.size w w' := by
  have h := putInt_any (-3) w (by omega) (by omega)
  have e : Nb.natB (Nb.zig (-3)) = [5] := by decide
  rw [e] at h
  exact h

set_option maxRecDepth 100000 in
set_option maxHeartbeats 2000000 in
theorem back_large (n : Nat) (k : Int) (s more : ByteArray) (w : World) (hn : n < 18446744073709551616) (hk0 : -9223372036854775808 ≤ k) (hk1 : k ≤ 9223372036854775807)
    (hs : 4096 < s.size) (hm : more.size ≤ 140737488355328) :
    Calls Try.prog 3 #[.int .u64 (n : Int), .int .i64 k, .string s, .string more] w fun r w' => r = .returned (.bool true) ∧ Below w.heap.size w w' := by
  have hl1 := Nb.natB_len10 n hn
  have hl2 := Nb.natB_len10 (Nb.zig k) (Nb.zig_lt k hk0 hk1)
  have HN : Hid (∀ W, Calls Try.prog 5 #[.int .u64 (n : Int)] W fun e w' => e = .returned (.string ⟨(Nb.natB n).toArray⟩) ∧ Below W.heap.size W w') := fun W => putNat_any n W hn
  have HK : Hid (∀ W, Calls Try.prog 6 #[.int .i64 k] W fun e w' => e = .returned (.string ⟨(Nb.natB (Nb.zig k)).toArray⟩) ∧ Below W.heap.size W w') := fun W => putInt_any k W hk0 hk1
  have HG : Hid (∀ W, Calls Try.prog 7 #[.string (⟨(Nb.natB n).toArray⟩ ++ more)] W fun r w' => r = .returned (.tuple #[.int .u64 (n : Int), .int .i64 ((Nb.natB n).length : Int), .int .i64 ((0 : Nat) : Int)]) ∧ w' = W) := fun W =>
    getNat_at _ W n _ 0 (by rw [size_cat]; unfold maxLen; omega) (by rw [data_cat]; exact Nb.getN_put n _ hn)
  have HI : Hid (∀ W, Calls Try.prog 8 #[.string (⟨(Nb.natB (Nb.zig k)).toArray⟩ ++ more)] W fun r w' => r = .returned (.tuple #[.int .i64 k, .int .i64 ((Nb.natB (Nb.zig k)).length : Int), .int .i64 ((0 : Nat) : Int)]) ∧ w' = W) := fun W => by
    have h := getInt_any (⟨(Nb.natB (Nb.zig k)).toArray⟩ ++ more) W (by rw [size_cat]; unfold maxLen; omega)
    rw [data_cat, Nb.getI_put k _ hk0 hk1] at h
    exact h
  generalize Nb.natB n = la at *
  generalize Nb.natB (Nb.zig k) = lb at *
  have hs' : (4096 : Int) < (s.size : Int) := by omega
  go_enter Try.func3, Try.ntmps3
  go_wp2_with fail
  refine (put300 _).mono ?_
  rintro r w1 ⟨rfl, hb1⟩
  go_wp2_with fail
  refine (putM3 _).mono ?_
  rintro r w2 ⟨rfl, hb2⟩
  go_wp2_with fail
  refine (HN.out _).mono ?_
  rintro r w3 ⟨rfl, hb3⟩
  go_wp2_with fail
  refine (HK.out _).mono ?_
  rintro r w4 ⟨rfl, hb4⟩
  go_wp2_with fail
  refine (HG.out _).mono ?_
  rintro r w5 ⟨rfl, rfl⟩
  go_wp2_with fail
  refine (HI.out _).mono ?_
  rintro r w6 ⟨rfl, rfl⟩
  go_wp2_with fail
  refine (putText_large _ _ hs).mono ?_
  rintro r w7 ⟨rfl, rfl⟩
  go_wp2_with fail
  go_ret
  exact ⟨rfl, chain (chain (chain hb1 hb2) hb3) hb4⟩

set_option maxRecDepth 100000 in
set_option maxHeartbeats 2000000 in
theorem back_fits (n : Nat) (k : Int) (s more : ByteArray) (w : World) (hn : n < 18446744073709551616) (hk0 : -9223372036854775808 ≤ k) (hk1 : k ≤ 9223372036854775807)
    (hs : s.size ≤ 4096) (hm : more.size ≤ 140737488355328) :
    Calls Try.prog 3 #[.int .u64 (n : Int), .int .i64 k, .string s, .string more] w fun r w' => r = .returned (.bool true) ∧ Below w.heap.size w w' := by
  have hl1 := Nb.natB_len10 n hn
  have hl2 := Nb.natB_len10 (Nb.zig k) (Nb.zig_lt k hk0 hk1)
  have HN : Hid (∀ W, Calls Try.prog 5 #[.int .u64 (n : Int)] W fun e w' => e = .returned (.string ⟨(Nb.natB n).toArray⟩) ∧ Below W.heap.size W w') := fun W => putNat_any n W hn
  have HK : Hid (∀ W, Calls Try.prog 6 #[.int .i64 k] W fun e w' => e = .returned (.string ⟨(Nb.natB (Nb.zig k)).toArray⟩) ∧ Below W.heap.size W w') := fun W => putInt_any k W hk0 hk1
  have HG : Hid (∀ W, Calls Try.prog 7 #[.string (⟨(Nb.natB n).toArray⟩ ++ more)] W fun r w' => r = .returned (.tuple #[.int .u64 (n : Int), .int .i64 ((Nb.natB n).length : Int), .int .i64 ((0 : Nat) : Int)]) ∧ w' = W) := fun W =>
    getNat_at _ W n _ 0 (by rw [size_cat]; unfold maxLen; omega) (by rw [data_cat]; exact Nb.getN_put n _ hn)
  have HI : Hid (∀ W, Calls Try.prog 8 #[.string (⟨(Nb.natB (Nb.zig k)).toArray⟩ ++ more)] W fun r w' => r = .returned (.tuple #[.int .i64 k, .int .i64 ((Nb.natB (Nb.zig k)).length : Int), .int .i64 ((0 : Nat) : Int)]) ∧ w' = W) := fun W => by
    have h := getInt_any (⟨(Nb.natB (Nb.zig k)).toArray⟩ ++ more) W (by rw [size_cat]; unfold maxLen; omega)
    rw [data_cat, Nb.getI_put k _ hk0 hk1] at h
    exact h
  have hl3 := Nb.natB_len10 s.size (by omega)
  have HP : Hid (∀ W, Calls Try.prog 9 #[.string s] W fun e w' => e = .returned (.tuple #[.string (⟨(Nb.natB s.size).toArray⟩ ++ s), .int .i64 0]) ∧ Below W.heap.size W w') := fun W => putText_fits s W hs
  have HT : Hid (∀ W, Calls Try.prog 10 #[.string ((⟨(Nb.natB s.size).toArray⟩ ++ s) ++ more)] W fun r w' => r = .returned (.tuple #[.string s, .int .i64 (((Nb.natB s.size).length + s.size : Nat) : Int), .int .i64 ((0 : Nat) : Int)]) ∧ Below W.heap.size W w') := fun W => by
    have h := getText_any ((⟨(Nb.natB s.size).toArray⟩ ++ s) ++ more) W (by rw [ByteArray.size_append, size_cat]; unfold maxLen; omega)
    rw [getT_put s more hs] at h
    exact h
  have hcat := size_cat (Nb.natB s.size) s
  generalize Nb.natB n = la at *
  generalize Nb.natB (Nb.zig k) = lb at *
  generalize Nb.natB s.size = lc at *
  generalize hc : (⟨lc.toArray⟩ ++ s : ByteArray) = T at *
  have hlen : ((lc.length : Int) + (s.size : Int) == (T.size : Int)) = true := by rw [hcat]; simp
  have hTs : T.size ≤ 4106 := by omega
  clear hc hcat
  go_enter Try.func3, Try.ntmps3
  go_wp2_with fail
  refine (put300 _).mono ?_
  rintro r w1 ⟨rfl, hb1⟩
  go_wp2_with fail
  refine (putM3 _).mono ?_
  rintro r w2 ⟨rfl, hb2⟩
  go_wp2_with fail
  refine (HN.out _).mono ?_
  rintro r w3 ⟨rfl, hb3⟩
  go_wp2_with fail
  refine (HK.out _).mono ?_
  rintro r w4 ⟨rfl, hb4⟩
  go_wp2_with fail
  refine (HG.out _).mono ?_
  rintro r w5 ⟨rfl, rfl⟩
  go_wp2_with fail
  refine (HI.out _).mono ?_
  rintro r w6 ⟨rfl, rfl⟩
  go_wp2_with fail
  refine (HP.out _).mono ?_
  rintro r w7 ⟨rfl, hb5⟩
  go_wp2_with fail
  refine (HT.out _).mono ?_
  rintro r w8 ⟨rfl, hb6⟩
  go_wp2_with fail
  go_ret
  exact ⟨rfl, chain (chain (chain (chain (chain hb1 hb2) hb3) hb4) hb5) hb6⟩

theorem back_walk (a0 a1 : Int) (a2 a3 : ByteArray) (w0 : (Lit.int .u64 a0).wf = true) (w1 : (Lit.int .i64 a1).wf = true) (_h2 : a2.size ≤ 140737488351232) (h3 : a3.size ≤ 140737488351232) (w : World) :
    Calls Try.prog 3 #[.int .u64 a0, .int .i64 a1, .string a2, .string a3] w fun e w' => e = .returned (.bool true) ∧ Below w.heap.size w w' := by
  have b0 := bounds_u64 w0
  have b1 := bounds_i64 w1
  obtain ⟨n, rfl⟩ := Int.eq_ofNat_of_zero_le b0.1
  by_cases h : a2.size ≤ 4096
  · exact back_fits n a1 a2 a3 w (by omega) (by omega) (by omega) h (by omega)
  · exact back_large n a1 a2 a3 w (by omega) (by omega) (by omega) (by omega) (by omega)
end Go.Proofs.Ytemchlnlmkggjae
