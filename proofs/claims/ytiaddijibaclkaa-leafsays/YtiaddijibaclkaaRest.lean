/-
  code.PutInt, GetInt, PutText, GetText, walked: each returns what the plain functions of this text say, and nothing that was there has turned. Conditions: an int's and a text's own bounds.
-/
import Derived.Test.YtiaddijibaclkaaClone
import Derived.Laws.Concat
namespace Go.Proofs.Ytiaddijibaclkaa.PCode
open Go.RowKit
namespace Nb
def zig (k : Int) : Nat := if 0 ≤ k then (2 * k).toNat else (2 * -(k + 1) + 1).toNat
def zag (m : Nat) : Int := if m % 2 = 0 then (m / 2 : Nat) else -((m / 2 : Nat) : Int) - 1
def getI (l : List UInt8) : Int × Nat × Nat := if (getN 0 0 l).2.2 = 0 then (zag (getN 0 0 l).1, (getN 0 0 l).2.1, 0) else (0, 0, (getN 0 0 l).2.2)
def getT (s : ByteArray) : ByteArray × Nat × Nat :=
  if (getN 0 0 s.data.toList).2.2 = 0 then
    (if 4096 < (getN 0 0 s.data.toList).1 then (⟨#[]⟩, 0, 2)
     else if s.size < (getN 0 0 s.data.toList).2.1 + (getN 0 0 s.data.toList).1 then (⟨#[]⟩, 0, 3)
     else (s.extract (getN 0 0 s.data.toList).2.1 ((getN 0 0 s.data.toList).2.1 + (getN 0 0 s.data.toList).1), (getN 0 0 s.data.toList).2.1 + (getN 0 0 s.data.toList).1, 0))
  else (⟨#[]⟩, 0, (getN 0 0 s.data.toList).2.2)
end Nb

theorem putNat_int (n : Int) (w : World) (h0 : 0 ≤ n) (h1 : n ≤ 18446744073709551615) :
    Calls Try.prog 16 #[.int .u64 n] w fun e w' => e = .returned (.string ⟨(Nb.natB n.toNat).toArray⟩) ∧ Below w.heap.size w w' := by
  obtain ⟨m, rfl⟩ := Int.eq_ofNat_of_zero_le h0
  exact putNat_any m w (by omega)

set_option maxRecDepth 100000 in
theorem putInt_any (k : Int) (w : World) (h0 : -9223372036854775808 ≤ k) (h1 : k ≤ 9223372036854775807) :
    Calls Try.prog 18 #[.int .i64 k] w fun e w' => e = .returned (.string ⟨(Nb.natB (Nb.zig k)).toArray⟩) ∧ Below w.heap.size w w' := by
  by_cases hk : 0 ≤ k
  · have HZ : Hid (Nb.zig k = (2 * k).toNat) := by show _ = _; simp [Nb.zig, hk]
    go_enter Try.func18, Try.ntmps18
    go_wp2_with (go_at_call 16; refine (putNat_int _ _ (by omega) (by omega)).mono ?_; rintro e w' ⟨rfl, hb⟩)
    go_ret
    rw [HZ.out]
    exact ⟨rfl, hb⟩
  · have HZ : Hid (Nb.zig k = (2 * -(k + 1) + 1).toNat) := by show _ = _; simp only [Nb.zig, if_neg hk]
    go_enter Try.func18, Try.ntmps18
    go_wp2_with (go_at_call 16; refine (putNat_int _ _ (by omega) (by omega)).mono ?_; rintro e w' ⟨rfl, hb⟩)
    go_ret
    rw [HZ.out]
    exact ⟨rfl, hb⟩

theorem getNat_at (s : ByteArray) (w : World) (x t e : Nat) (hs : s.size ≤ maxLen) (hG : Nb.getN 0 0 s.data.toList = (x, t, e)) :
    Calls Try.prog 8 #[.string s] w fun r w' => r = .returned (.tuple #[.int .u64 (x : Int), .int .i64 (t : Int), .int .i64 (e : Int)]) ∧ w' = w := by
  have h := getNat_any s w hs
  rw [hG] at h
  exact h

set_option maxRecDepth 100000 in
theorem getInt_any (s : ByteArray) (w : World) (hs : s.size ≤ maxLen) :
    Calls Try.prog 10 #[.string s] w fun e w' => e = .returned (.tuple #[.int .i64 (Nb.getI s.data.toList).1, .int .i64 (Nb.getI s.data.toList).2.1, .int .i64 (Nb.getI s.data.toList).2.2]) ∧ w' = w := by
  have hb := Nb.get_bound s.data.toList 0 0 (by omega) (by omega)
  have HI := Nb.getI.eq_1 s.data.toList
  obtain ⟨x, t, e, hG⟩ : ∃ x t e, Nb.getN 0 0 s.data.toList = (x, t, e) := ⟨_, _, _, rfl⟩
  have HC : ∀ W, Calls Try.prog 8 #[.string s] W fun r w' => r = .returned (.tuple #[.int .u64 (x : Int), .int .i64 (t : Int), .int .i64 (e : Int)]) ∧ w' = W := fun W => getNat_at s W x t e hs hG
  rw [hG] at hb HI
  simp only at hb HI
  generalize Nb.getI s.data.toList = I at *
  clear hG
  have hx : (x : Int) ≤ 18446744073709551615 := by omega
  have ht : (t : Int) ≤ 10 := by omega
  by_cases he : e = 0
  · subst he
    rw [if_pos rfl] at HI
    have HC' : Hid (∀ W, Calls Try.prog 8 #[.string s] W fun r w' => r = .returned (.tuple #[.int .u64 (x : Int), .int .i64 (t : Int), .int .i64 ((0 : Nat) : Int)]) ∧ w' = W) := HC
    by_cases h2 : x % 2 = 0
    · have h2' : ((x : Int) % 2 == 0) = true := by simp; omega
      have HI' : Hid (I = (((x / 2 : Nat) : Int), t, 0)) := by show _ = _; rw [HI, Nb.zag, if_pos h2]
      clear HI HC hb
      go_enter Try.func10, Try.ntmps10
      go_wp2_with (go_at_call 8; refine (HC'.out _).mono ?_; rintro r w' ⟨rfl, rfl⟩)
      go_ret3
      rw [HI'.out]
      exact ⟨rfl, rfl⟩
    · have h2' : ((x : Int) % 2 == 0) = false := by simp; omega
      have HI' : Hid (I = (-((x / 2 : Nat) : Int) - 1, t, 0)) := by show _ = _; rw [HI, Nb.zag, if_neg h2]
      clear HI HC hb
      go_enter Try.func10, Try.ntmps10
      go_wp2_with (go_at_call 8; refine (HC'.out _).mono ?_; rintro r w' ⟨rfl, rfl⟩)
      go_ret3
      rw [HI'.out]
      exact ⟨rfl, rfl⟩
  · rw [if_neg he] at HI
    have HC' : Hid (∀ W, Calls Try.prog 8 #[.string s] W fun r w' => r = .returned (.tuple #[.int .u64 (x : Int), .int .i64 (t : Int), .int .i64 (e : Int)]) ∧ w' = W) := HC
    have he' : ((e : Int) != 0) = true := by simp; omega
    have HI' : Hid (I = (0, 0, e)) := HI
    clear HI HC hb
    go_enter Try.func10, Try.ntmps10
    go_wp2_with (go_at_call 8; refine (HC'.out _).mono ?_; rintro r w' ⟨rfl, rfl⟩)
    go_ret3
    rw [HI'.out]
    exact ⟨rfl, rfl⟩

set_option maxRecDepth 100000 in
theorem putText_large (s : ByteArray) (w : World) (h : 4096 < s.size) :
    Calls Try.prog 14 #[.string s] w fun e w' => e = .returned (.tuple #[.string ⟨#[]⟩, .int .i64 2]) ∧ w' = w := by
  have h' : (4096 : Int) < (s.size : Int) := by omega
  go_enter Try.func14, Try.ntmps14
  go_wp2_with fail
  go_ret2
  exact ⟨rfl, rfl⟩

set_option maxRecDepth 100000 in
theorem putText_fits (s : ByteArray) (w : World) (h : s.size ≤ 4096) :
    Calls Try.prog 14 #[.string s] w fun e w' => e = .returned (.tuple #[.string (⟨(Nb.natB s.size).toArray⟩ ++ s), .int .i64 0]) ∧ Below w.heap.size w w' := by
  have h' : (s.size : Int) ≤ 4096 := by omega
  have hl : (Nb.natB s.size).length ≤ 10 := Nb.natB_len10 s.size (by omega)
  go_enter Try.func14, Try.ntmps14
  go_wp2_with (go_at_call 16; refine (putNat_int _ _ (by omega) (by omega)).mono ?_; rintro e w' ⟨rfl, hb⟩)
  go_ret2
  exact ⟨rfl, hb⟩

set_option maxRecDepth 100000 in
theorem getText_any (s : ByteArray) (w : World) (hs : s.size ≤ maxLen) :
    Calls Try.prog 12 #[.string s] w fun e w' => e = .returned (.tuple #[.string (Nb.getT s).1, .int .i64 (Nb.getT s).2.1, .int .i64 (Nb.getT s).2.2]) ∧ Below w.heap.size w w' := by
  have hb := Nb.get_bound s.data.toList 0 0 (by omega) (by omega)
  have HI := Nb.getT.eq_1 s
  obtain ⟨x, t, e, hG⟩ : ∃ x t e, Nb.getN 0 0 s.data.toList = (x, t, e) := ⟨_, _, _, rfl⟩
  have HC : Hid (∀ W, Calls Try.prog 8 #[.string s] W fun r w' => r = .returned (.tuple #[.int .u64 (x : Int), .int .i64 (t : Int), .int .i64 (e : Int)]) ∧ w' = W) := fun W => getNat_at s W x t e hs hG
  rw [hG] at hb HI
  simp only at hb HI
  generalize Nb.getT s = I at *
  have hlen : s.data.toList.length = s.size := by rw [Array.length_toList]; rfl
  clear hG
  have hx : (x : Int) ≤ 18446744073709551615 := by omega
  have ht : (t : Int) ≤ 10 := by omega
  have hts : t ≤ s.size := by omega
  unfold maxLen at hs
  clear hlen hb
  by_cases he : e = 0
  · subst he
    rw [if_pos rfl] at HI
    by_cases h1 : 4096 < x
    · have h1' : (4096 : Int) < (x : Int) := by omega
      have HI' : Hid (I = (⟨#[]⟩, 0, 2)) := by show _ = _; rw [HI, if_pos h1]
      clear HI
      go_enter Try.func12, Try.ntmps12
      go_wp2_with (go_at_call 8; refine (HC.out _).mono ?_; rintro r w' ⟨rfl, rfl⟩)
      go_ret3
      rw [HI'.out]
      exact ⟨rfl, Below.refl _ _⟩
    · have h1' : (x : Int) ≤ 4096 := by omega
      by_cases h2 : s.size < t + x
      · have h2' : (s.size : Int) < (t : Int) + (x : Int) := by omega
        have HI' : Hid (I = (⟨#[]⟩, 0, 3)) := by show _ = _; rw [HI, if_neg h1, if_pos h2]
        clear HI
        go_enter Try.func12, Try.ntmps12
        go_wp2_with (go_at_call 8; refine (HC.out _).mono ?_; rintro r w' ⟨rfl, rfl⟩)
        go_ret3
        rw [HI'.out]
        exact ⟨rfl, Below.refl _ _⟩
      · have h2' : (t : Int) + (x : Int) ≤ (s.size : Int) := by omega
        have HI' : Hid (I = (s.extract t (t + x), t + x, 0)) := by show _ = _; rw [HI, if_neg h1, if_neg h2]
        clear HI
        have hsl : ∀ W : World, (Instr.slice 9 (.string s) (some (.int .i64 (t : Int))) (some (.int .i64 ((t : Int) + (x : Int)))) none).run Try.prog W = .ok (.string (s.extract t (t + x))) W := fun W => by
          have h := run_slice_string (P := Try.prog) W 9 s .i64 .i64 (t : Int) ((t : Int) + (x : Int)) Try.underlying9 (by omega) (by omega) (by omega)
          rw [show ((t : Int)).toNat = t from by omega, show ((t : Int) + (x : Int)).toNat = t + x from by omega] at h
          exact h
        have hsz : (s.extract t (t + x)).size ≤ 140737488355328 := by rw [ByteArray.size_extract]; omega
        go_enter Try.func12, Try.ntmps12
        go_wp2_with (first | (go_at_call 8; refine (HC.out _).mono ?_; rintro r w' ⟨rfl, rfl⟩) | (go_at_call 61; refine (clone_any _ _ hsz).mono ?_; rintro r w' ⟨rfl, hb⟩))
        go_ret3
        rw [HI'.out]
        exact ⟨rfl, by assumption⟩
  · rw [if_neg he] at HI
    have he' : ((e : Int) != 0) = true := by simp; omega
    have HI' : Hid (I = (⟨#[]⟩, 0, e)) := HI
    clear HI
    go_enter Try.func12, Try.ntmps12
    go_wp2_with (go_at_call 8; refine (HC.out _).mono ?_; rintro r w' ⟨rfl, rfl⟩)
    go_ret3
    rw [HI'.out]
    exact ⟨rfl, Below.refl _ _⟩
end Go.Proofs.Ytiaddijibaclkaa.PCode
