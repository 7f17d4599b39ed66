/-
  quirkeep.CodeOnly: for every text and all two uint64s the call returns true, and what was handed in reads as before. No condition.
-/
import Derived.Test.YtemchlnlmkggjaeRest
import Derived.Deep.RegionHeld3
import Derived.Deep.QuietTactic
import Derived.BigQuiet
import Derived.WalkLawsBesides
import Derived.OpenShut
namespace Go.Proofs.Ytemchlnlmkggjae
open Go.RowKit

theorem get300 : Nb.getN 0 0 (⟨#[172, 2]⟩ : ByteArray).data.toList = (300, 2, 0) := by decide

theorem chain {a b c : World} (h : Below a.heap.size a b) (k : Below b.heap.size b c) : Below a.heap.size a c := h.trans (k.mono h.size)
theorem drawn {a c : World} {n : Nat} (h : Below (a.drewN n).heap.size (a.drewN n) c) : Below a.heap.size a c := by
  have hz : (a.drewN n).heap.size = a.heap.size := by simp
  rw [hz] at h
  exact (below_drewN (Below.refl a.heap.size a) n).trans h

theorem drawn1 {a c : World} (h : Below a.drew.heap.size a.drew c) : Below a.heap.size a c := ⟨h.os, h.tape, h.output, h.size, h.block⟩

theorem cut_eq {s : ByteArray} {x t : Nat} (h : Nb.natB x = List.take (t - 0) s.data.toList) : (Nb.natB x == (s.extract 0 t).toList) = true := by
  rw [Lib.toList_data, Lib.extract_data, List.drop_zero, ← h]; simp

theorem getT_ok {s T : ByteArray} {x t j : Nat} (hG : Nb.getN 0 0 s.data.toList = (x, t, 0)) (hT : Nb.getT s = (T, j, 0)) :
    T = s.extract t j ∧ j = t + x ∧ x ≤ 4096 ∧ j ≤ s.size := by
  rw [Nb.getT, hG] at hT
  simp only [if_true] at hT
  by_cases h1 : 4096 < x
  · rw [if_pos h1] at hT; simp at hT
  · rw [if_neg h1] at hT
    by_cases h2 : s.size < t + x
    · rw [if_pos h2] at hT; simp at hT
    · rw [if_neg h2] at hT
      simp only [Prod.mk.injEq, and_true] at hT
      obtain ⟨rfl, rfl⟩ := hT
      exact ⟨rfl, rfl, by omega, by omega⟩

theorem text_eq {s T : ByteArray} {x t j : Nat} (h : Nb.natB x = List.take (t - 0) s.data.toList) (hT : T = s.extract t j) (hj : j = t + x) (_h4 : x ≤ 4096) (hs : j ≤ s.size) :
    T.size = x ∧ ((⟨(Nb.natB T.size).toArray⟩ ++ T : ByteArray).toList == (s.extract 0 j).toList) = true := by
  have hz : T.size = x := by rw [hT, ByteArray.size_extract]; omega
  refine ⟨hz, ?_⟩
  rw [hz]
  have e : (⟨(Nb.natB x).toArray⟩ ++ T : ByteArray).toList = (s.extract 0 j).toList := by
    rw [Lib.toList_data, Lib.toList_data, ByteArray.data_append, Array.toList_append, hT, Lib.extract_data, Lib.extract_data, List.toList_toArray, h, hj]
    simp [List.take_add]
  rw [e]; simp

theorem mono_len (n m : Int) : (Nb.natB (min n m).toNat).length ≤ (Nb.natB (max n m).toNat).length := Nb.natB_mono _ _ (by omega)

set_option maxRecDepth 100000 in
set_option maxHeartbeats 2000000 in
theorem only_none (s : ByteArray) (n m : Int) (w : World) (hs : s.size ≤ maxLen) (hn0 : 0 ≤ n) (hn : n ≤ 18446744073709551615) (hm0 : 0 ≤ m) (hm : m ≤ 18446744073709551615)
    (x t e : Nat) (hG : Nb.getN 0 0 s.data.toList = (x, t, e)) (he : e ≠ 0) :
    Calls Try.prog 4 #[.string s, .int .u64 n, .int .u64 m] w fun r w' => r = .returned (.bool true) ∧ Below w.heap.size w w' := by
  have HC : Hid (∀ W, Calls Try.prog 7 #[.string s] W fun r w' => r = .returned (.tuple #[.int .u64 (x : Int), .int .i64 (t : Int), .int .i64 (e : Int)]) ∧ w' = W) := fun W => getNat_at s W x t e hs hG
  have HT : Hid (∀ W, Calls Try.prog 10 #[.string s] W fun r w' => r = .returned (.tuple #[.string ⟨#[]⟩, .int .i64 0, .int .i64 (e : Int)]) ∧ Below W.heap.size W w') := fun W => by
    have h := getText_any s W hs
    have hT : Nb.getT s = (⟨#[]⟩, 0, e) := by rw [Nb.getT, hG]; simp [he]
    rw [hT] at h
    exact h
  have H3 : Hid (∀ W, Calls Try.prog 7 #[.string ⟨#[172, 2]⟩] W fun r w' => r = .returned (.tuple #[.int .u64 ((300 : Nat) : Int), .int .i64 ((2 : Nat) : Int), .int .i64 ((0 : Nat) : Int)]) ∧ w' = W) := fun W => getNat_at _ W 300 2 0 (by decide) get300
  have he' : ((e : Int) == 0) = false := by simp; omega
  have he2 : ((e : Int) != 0) = true := by simp; omega
  clear hG
  unfold maxLen at hs
  go_enter Try.func4, Try.ntmps4
  go_wp2_with fail
  refine (H3.out _).mono ?_
  rintro r w1 ⟨rfl, rfl⟩
  go_wp2_with fail
  refine (HC.out _).mono ?_
  rintro r w1 ⟨rfl, rfl⟩
  go_wp2_with fail
  go_quiet (fail)
  go_wp2_with fail
  refine (HT.out _).mono ?_
  rintro r w2 ⟨rfl, hb2⟩
  go_wp2_with fail
  refine (putNat_int _ _ (by omega) (by omega)).mono ?_
  rintro r w3 ⟨rfl, hb3⟩
  go_wp2_with fail
  refine (putNat_int _ _ (by omega) (by omega)).mono ?_
  rintro r w4 ⟨rfl, hb4⟩
  go_wp2_with fail
  go_ret
  exact ⟨by rw [decide_eq_true (mono_len n m)]; rfl, chain (chain (drawn hb2) hb3) hb4⟩

set_option maxRecDepth 100000 in
set_option maxHeartbeats 2000000 in
theorem only_nat (s : ByteArray) (n m : Int) (w : World) (hs : s.size ≤ maxLen) (hn0 : 0 ≤ n) (hn : n ≤ 18446744073709551615) (hm0 : 0 ≤ m) (hm : m ≤ 18446744073709551615)
    (x t f : Nat) (hG : Nb.getN 0 0 s.data.toList = (x, t, 0)) (hT : Nb.getT s = (⟨#[]⟩, 0, f)) (hf : f ≠ 0) :
    Calls Try.prog 4 #[.string s, .int .u64 n, .int .u64 m] w fun r w' => r = .returned (.bool true) ∧ Below w.heap.size w w' := by
  have HC : Hid (∀ W, Calls Try.prog 7 #[.string s] W fun r w' => r = .returned (.tuple #[.int .u64 (x : Int), .int .i64 (t : Int), .int .i64 ((0 : Nat) : Int)]) ∧ w' = W) := fun W => getNat_at s W x t 0 hs hG
  have HT : Hid (∀ W, Calls Try.prog 10 #[.string s] W fun r w' => r = .returned (.tuple #[.string ⟨#[]⟩, .int .i64 0, .int .i64 (f : Int)]) ∧ Below W.heap.size W w') := fun W => by
    have h := getText_any s W hs
    rw [hT] at h
    exact h
  have H3 : Hid (∀ W, Calls Try.prog 7 #[.string ⟨#[172, 2]⟩] W fun r w' => r = .returned (.tuple #[.int .u64 ((300 : Nat) : Int), .int .i64 ((2 : Nat) : Int), .int .i64 ((0 : Nat) : Int)]) ∧ w' = W) := fun W => getNat_at _ W 300 2 0 (by decide) get300
  have hf' : ((f : Int) == 0) = false := by simp; omega
  have hb := Nb.get_bound s.data.toList 0 0 (by omega) (by omega)
  obtain ⟨y, hy, hv, ht1, ht2, _⟩ := Nb.get_only s.data.toList 0 0 x t hG
  rw [hG] at hb
  simp only at hb
  have hlen : s.data.toList.length = s.size := by rw [Array.length_toList]; rfl
  have hx : (x : Int) ≤ 18446744073709551615 := by omega
  have ht1' : (1 : Int) ≤ (t : Int) := by omega
  have ht2' : (t : Int) ≤ (s.size : Int) := by omega
  obtain rfl : x = y := by omega
  have hd1 : decide ((t : Int) < 1) = false := by simp; omega
  have hd2 : decide ((s.size : Int) < (t : Int)) = false := by simp; omega
  have hd3 : decide (s.size < t) = false := by simp; omega
  clear hG hT hb hlen ht2 hy
  have hcmp := cut_eq hv
  clear hv
  unfold maxLen at hs
  go_enter Try.func4, Try.ntmps4
  go_wp2_with fail
  refine (H3.out _).mono ?_
  rintro r w1 ⟨rfl, rfl⟩
  go_wp2_with fail
  refine (HC.out _).mono ?_
  rintro r w1 ⟨rfl, rfl⟩
  go_wp2_with fail
  go_region_held3 (fun _ => True) (trivial) ((go_at_call 5; refine (putNat_int _ _ (by omega) (by omega)).mono ?_; rintro r w2 ⟨rfl, hb1⟩))
  go_wp2_with fail
  refine (HT.out _).mono ?_
  rintro r w3 ⟨rfl, hb2⟩
  go_wp2_with fail
  refine (putNat_int _ _ (by omega) (by omega)).mono ?_
  rintro r w4 ⟨rfl, hb3⟩
  go_wp2_with fail
  refine (putNat_int _ _ (by omega) (by omega)).mono ?_
  rintro r w5 ⟨rfl, hb4⟩
  go_wp2_with fail
  go_ret
  exact ⟨by rw [decide_eq_true (mono_len n m)]; rfl, chain (chain (chain (drawn1 hb1) hb2) hb3) hb4⟩

set_option maxRecDepth 100000 in
set_option maxHeartbeats 2000000 in
theorem only_text (s : ByteArray) (n m : Int) (w : World) (hs : s.size ≤ maxLen) (hn0 : 0 ≤ n) (hn : n ≤ 18446744073709551615) (hm0 : 0 ≤ m) (hm : m ≤ 18446744073709551615)
    (x t j : Nat) (T : ByteArray) (hG : Nb.getN 0 0 s.data.toList = (x, t, 0)) (hT : Nb.getT s = (T, j, 0)) :
    Calls Try.prog 4 #[.string s, .int .u64 n, .int .u64 m] w fun r w' => r = .returned (.bool true) ∧ Below w.heap.size w w' := by
  have HC : Hid (∀ W, Calls Try.prog 7 #[.string s] W fun r w' => r = .returned (.tuple #[.int .u64 (x : Int), .int .i64 (t : Int), .int .i64 ((0 : Nat) : Int)]) ∧ w' = W) := fun W => getNat_at s W x t 0 hs hG
  have HT : Hid (∀ W, Calls Try.prog 10 #[.string s] W fun r w' => r = .returned (.tuple #[.string T, .int .i64 (j : Int), .int .i64 ((0 : Nat) : Int)]) ∧ Below W.heap.size W w') := fun W => by
    have h := getText_any s W hs
    rw [hT] at h
    exact h
  have H3 : Hid (∀ W, Calls Try.prog 7 #[.string ⟨#[172, 2]⟩] W fun r w' => r = .returned (.tuple #[.int .u64 ((300 : Nat) : Int), .int .i64 ((2 : Nat) : Int), .int .i64 ((0 : Nat) : Int)]) ∧ w' = W) := fun W => getNat_at _ W 300 2 0 (by decide) get300
  have hb := Nb.get_bound s.data.toList 0 0 (by omega) (by omega)
  obtain ⟨y, hy, hv, ht1, ht2, _⟩ := Nb.get_only s.data.toList 0 0 x t hG
  have ⟨hTs, hj, hx4, hje⟩ := getT_ok hG hT
  rw [hG] at hb
  simp only at hb
  have hlen : s.data.toList.length = s.size := by rw [Array.length_toList]; rfl
  have hx : (x : Int) ≤ 18446744073709551615 := by omega
  have ht1' : (1 : Int) ≤ (t : Int) := by omega
  have ht2' : (t : Int) ≤ (s.size : Int) := by omega
  have hj' : (j : Int) ≤ (s.size : Int) := by omega
  obtain rfl : x = y := by omega
  have hd1 : decide ((t : Int) < 1) = false := by simp; omega
  have hd2 : decide ((s.size : Int) < (t : Int)) = false := by simp; omega
  have hd3 : decide (s.size < t) = false := by simp; omega
  have hd4 : decide ((s.size : Int) < (j : Int)) = false := by simp; omega
  have hd5 : decide (s.size < j) = false := by simp; omega
  have hcmp := cut_eq hv
  have ⟨hTz, hcmp2⟩ := text_eq hv hTs hj hx4 hje
  have hfit : T.size ≤ 4096 := by omega
  clear hG hT hb hlen ht2 hy hv hTs hTz hj
  unfold maxLen at hs
  go_enter Try.func4, Try.ntmps4
  go_wp2_with fail
  refine (H3.out _).mono ?_
  rintro r w1 ⟨rfl, rfl⟩
  go_wp2_with fail
  refine (HC.out _).mono ?_
  rintro r w1 ⟨rfl, rfl⟩
  go_wp2_with fail
  go_region_held3 (fun _ => True) (trivial) ((go_at_call 5; refine (putNat_int _ _ (by omega) (by omega)).mono ?_; rintro r w2 ⟨rfl, hb1⟩))
  go_wp2_with fail
  refine (HT.out _).mono ?_
  rintro r w3 ⟨rfl, hb2⟩
  go_wp2_with fail
  refine (putText_fits _ _ hfit).mono ?_
  rintro r w4 ⟨rfl, hb3⟩
  go_wp2_with fail
  refine (putNat_int _ _ (by omega) (by omega)).mono ?_
  rintro r w5 ⟨rfl, hb4⟩
  go_wp2_with fail
  refine (putNat_int _ _ (by omega) (by omega)).mono ?_
  rintro r w6 ⟨rfl, hb5⟩
  go_wp2_with fail
  go_ret
  exact ⟨by rw [decide_eq_true (mono_len n m)]; rfl, chain (chain (chain (chain (drawn1 hb1) hb2) hb3) hb4) hb5⟩

theorem only_walk (a0 : ByteArray) (a1 a2 : Int) (w0 : a0.size ≤ maxLen) (w1 : (Lit.int .u64 a1).wf = true) (w2 : (Lit.int .u64 a2).wf = true) (w : World) :
    Calls Try.prog 4 #[.string a0, .int .u64 a1, .int .u64 a2] w fun e w' => e = .returned (.bool true) ∧ Below w.heap.size w w' := by
  have b1 := bounds_u64 w1
  have b2 := bounds_u64 w2
  obtain ⟨x, t, e, hG⟩ : ∃ x t e, Nb.getN 0 0 a0.data.toList = (x, t, e) := ⟨_, _, _, rfl⟩
  by_cases he : e = 0
  · subst he
    obtain ⟨T, j, f, hT⟩ : ∃ T j f, Nb.getT a0 = (T, j, f) := ⟨_, _, _, rfl⟩
    by_cases hf : f = 0
    · subst hf
      exact only_text a0 a1 a2 w w0 (by omega) (by omega) (by omega) (by omega) x t j T hG hT
    · refine only_nat a0 a1 a2 w w0 (by omega) (by omega) (by omega) (by omega) x t f hG ?_ hf
      have h := hT
      rw [Nb.getT, hG] at h
      simp only [if_true] at h
      by_cases h1 : 4096 < x
      · rw [if_pos h1] at h; rw [hT, ← h]
        simp only [Prod.mk.injEq] at h
        rw [h.2.2]
      · rw [if_neg h1] at h
        by_cases h2 : a0.size < t + x
        · rw [if_pos h2] at h; rw [hT, ← h]
          simp only [Prod.mk.injEq] at h
          rw [h.2.2]
        · rw [if_neg h2] at h
          simp only [Prod.mk.injEq] at h
          omega
  · exact only_none a0 a1 a2 w w0 (by omega) (by omega) (by omega) (by omega) x t e hG he
end Go.Proofs.Ytemchlnlmkggjae
