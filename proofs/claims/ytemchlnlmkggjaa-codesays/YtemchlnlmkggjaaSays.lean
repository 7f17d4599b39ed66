/-
  quirlaw.CodeSays: for every uint64, every int and every text of at most 2^47 bytes the call returns true, and what was handed in reads as before. Condition: the text's length (the row's own reach gives it).
-/
import Derived.Test.YtemchlnlmkggjaaRef
import Derived.OpenShut
namespace Go.Proofs.Ytemchlnlmkggjaa
open Go.RowKit

theorem hide {p : Prop} (h : p) : Hid p := h

theorem chain {a b c : World} (h : Below a.heap.size a b) (k : Below b.heap.size b c) : Below a.heap.size a c := h.trans (k.mono h.size)

set_option maxRecDepth 100000 in
set_option maxHeartbeats 2000000 in
theorem says_fits (n k : Int) (s : ByteArray) (w : World) (hn0 : 0 ≤ n) (hn1 : n ≤ 18446744073709551615) (hk0 : -9223372036854775808 ≤ k) (hk1 : k ≤ 9223372036854775807) (hs : s.size ≤ 4096) :
    Calls Try.prog 3 #[.int .u64 n, .int .i64 k, .string s] w fun r w' => r = .returned (.bool true) ∧ Below w.heap.size w w' := by
  have hm : s.size ≤ maxLen := by unfold maxLen; omega
  have c1 := hide fun W => getNat_any s W hm
  have c2 := hide fun W => refGet_any s W hm
  have c3 := hide fun W => getInt_any s W hm
  have c4 := hide fun W => refGetInt_any s W hm
  have c5 := hide fun W => getText_any s W hm
  have c6 := hide fun W => refGetText_any s W hm
  have c7 := hide fun W => putText_fits s W hs
  have c8 := hide fun W => refText_any s W (by omega)
  have c9 := hide fun W => putNat_int n W hn0 hn1
  have c10 := hide fun W => refNat_int n W hn0 hn1
  have c11 := hide fun W => putInt_any k W hk0 hk1
  have c12 := hide fun W => refInt_any k W hk0 hk1
  generalize Nb.getN 0 0 s.data.toList = G at *
  generalize Nb.getI s.data.toList = I at *
  generalize Nb.getT s = T at *
  generalize (⟨(Nb.natB s.size).toArray⟩ ++ s : ByteArray) = P at *
  generalize (⟨(Nb.natB n.toNat).toArray⟩ : ByteArray) = N at *
  generalize (⟨(Nb.natB (Nb.zig k)).toArray⟩ : ByteArray) = K at *
  clear hm
  have hs' : decide ((4096 : Int) < (s.size : Int)) = false := by simp; omega
  go_enter Try.func3, Try.ntmps3
  go_wp2_with fail
  refine (c1.out _).mono ?_
  rintro r w1 ⟨rfl, rfl⟩
  go_wp2_with fail
  refine (c2.out _).mono ?_
  rintro r w2 ⟨rfl, rfl⟩
  go_wp2_with fail
  refine (c3.out _).mono ?_
  rintro r w3 ⟨rfl, rfl⟩
  go_wp2_with fail
  refine (c4.out _).mono ?_
  rintro r w4 ⟨rfl, rfl⟩
  go_wp2_with fail
  refine (c5.out _).mono ?_
  rintro r w5 ⟨rfl, hb1⟩
  go_wp2_with fail
  refine (c6.out _).mono ?_
  rintro r w6 ⟨rfl, rfl⟩
  go_wp2_with fail
  refine (c7.out _).mono ?_
  rintro r w7 ⟨rfl, hb2⟩
  go_wp2_with fail
  refine (c8.out _).mono ?_
  rintro r w8 ⟨rfl, hb3⟩
  go_wp2_with fail
  refine (c9.out _).mono ?_
  rintro r w9 ⟨rfl, hb4⟩
  go_wp2_with fail
  refine (c10.out _).mono ?_
  rintro r w10 ⟨rfl, hb5⟩
  go_wp2_with fail
  refine (c11.out _).mono ?_
  rintro r w11 ⟨rfl, hb6⟩
  go_wp2_with fail
  refine (c12.out _).mono ?_
  rintro r w12 ⟨rfl, hb7⟩
  go_wp2_with fail
  go_ret
  exact ⟨rfl, chain (chain (chain (chain (chain (chain hb1 hb2) hb3) hb4) hb5) hb6) hb7⟩
set_option maxRecDepth 100000 in
set_option maxHeartbeats 2000000 in
theorem says_large (n k : Int) (s : ByteArray) (w : World) (hn0 : 0 ≤ n) (hn1 : n ≤ 18446744073709551615) (hk0 : -9223372036854775808 ≤ k) (hk1 : k ≤ 9223372036854775807) (hs : 4096 < s.size) (hr : s.size ≤ 140737488355328) :
    Calls Try.prog 3 #[.int .u64 n, .int .i64 k, .string s] w fun r w' => r = .returned (.bool true) ∧ Below w.heap.size w w' := by
  have hm : s.size ≤ maxLen := by unfold maxLen; omega
  have c1 := hide fun W => getNat_any s W hm
  have c2 := hide fun W => refGet_any s W hm
  have c3 := hide fun W => getInt_any s W hm
  have c4 := hide fun W => refGetInt_any s W hm
  have c5 := hide fun W => getText_any s W hm
  have c6 := hide fun W => refGetText_any s W hm
  have c7 := hide fun W => putText_large s W hs
  have c8 := hide fun W => refText_any s W (by omega)
  have c9 := hide fun W => putNat_int n W hn0 hn1
  have c10 := hide fun W => refNat_int n W hn0 hn1
  have c11 := hide fun W => putInt_any k W hk0 hk1
  have c12 := hide fun W => refInt_any k W hk0 hk1
  generalize Nb.getN 0 0 s.data.toList = G at *
  generalize Nb.getI s.data.toList = I at *
  generalize Nb.getT s = T at *
  have hP : (⟨(Nb.natB s.size).toArray⟩ ++ s : ByteArray).toList.isEmpty = false := by
    rw [Lib.toList_data, ByteArray.data_append, Array.toList_append, List.isEmpty_eq_false_iff]
    have := Nb.natB_pos s.size
    generalize Nb.natB s.size = l at *
    intro h
    have h2 : l = [] := (List.append_eq_nil_iff.1 h).1
    rw [h2] at this
    simp at this
  generalize (⟨(Nb.natB s.size).toArray⟩ ++ s : ByteArray) = P at *
  generalize (⟨(Nb.natB n.toNat).toArray⟩ : ByteArray) = N at *
  generalize (⟨(Nb.natB (Nb.zig k)).toArray⟩ : ByteArray) = K at *
  clear hm
  have hs' : decide ((4096 : Int) < (s.size : Int)) = true := by simp; omega
  go_enter Try.func3, Try.ntmps3
  go_wp2_with fail
  refine (c1.out _).mono ?_
  rintro r w1 ⟨rfl, rfl⟩
  go_wp2_with fail
  refine (c2.out _).mono ?_
  rintro r w2 ⟨rfl, rfl⟩
  go_wp2_with fail
  refine (c3.out _).mono ?_
  rintro r w3 ⟨rfl, rfl⟩
  go_wp2_with fail
  refine (c4.out _).mono ?_
  rintro r w4 ⟨rfl, rfl⟩
  go_wp2_with fail
  refine (c5.out _).mono ?_
  rintro r w5 ⟨rfl, hb1⟩
  go_wp2_with fail
  refine (c6.out _).mono ?_
  rintro r w6 ⟨rfl, rfl⟩
  go_wp2_with fail
  refine (c7.out _).mono ?_
  rintro r w7 ⟨rfl, rfl⟩
  go_wp2_with fail
  refine (c8.out _).mono ?_
  rintro r w8 ⟨rfl, hb3⟩
  go_wp2_with fail
  refine (c9.out _).mono ?_
  rintro r w9 ⟨rfl, hb4⟩
  go_wp2_with fail
  refine (c10.out _).mono ?_
  rintro r w10 ⟨rfl, hb5⟩
  go_wp2_with fail
  refine (c11.out _).mono ?_
  rintro r w11 ⟨rfl, hb6⟩
  go_wp2_with fail
  refine (c12.out _).mono ?_
  rintro r w12 ⟨rfl, hb7⟩
  go_wp2_with fail
  go_ret
  exact ⟨rfl, chain (chain (chain (chain (chain hb1 hb3) hb4) hb5) hb6) hb7⟩

theorem says_walk (a0 a1 : Int) (a2 : ByteArray) (w0 : (Lit.int .u64 a0).wf = true) (w1 : (Lit.int .i64 a1).wf = true) (h2 : a2.size ≤ 140737488351232) (w : World) :
    Calls Try.prog 3 #[.int .u64 a0, .int .i64 a1, .string a2] w fun e w' => e = .returned (.bool true) ∧ Below w.heap.size w w' := by
  have b0 := bounds_u64 w0
  have b1 := bounds_i64 w1
  by_cases h : a2.size ≤ 4096
  · exact says_fits a0 a1 a2 w b0.1 b0.2 b1.1 b1.2 h
  · exact says_large a0 a1 a2 w b0.1 b0.2 b1.1 b1.2 (by omega) (by omega)
end Go.Proofs.Ytemchlnlmkggjaa
