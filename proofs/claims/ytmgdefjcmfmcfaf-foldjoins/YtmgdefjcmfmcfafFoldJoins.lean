/-
  quirkeep.FoldJoins: for all two texts, each of at most 2^47 - 4096 bytes, the call returns true, and what was handed in reads as before. Condition: the texts' lengths (the row's own reach gives them).
-/
import Derived.Test.YtmgdefjcmfmcfafFoldText
import Derived.OpenShut
namespace Go.Proofs.Ytmgdefjcmfmcfaf
open Go.RowKit

theorem ends {l : List UInt8} : ((Fo.sum l : Nat) : Int) % 65536 = ((Fo.A l : Nat) : Int) ∧ ((Fo.sum l : Nat) : Int) / 65536 = ((Fo.B l : Nat) : Int) := by
  have := Fo.A_lt l; unfold Fo.sum; omega

theorem join_sums (s t : ByteArray) (w : World) (ht : t.size ≤ 4096) :
    Calls Try.prog 6 #[.int .u32 (Fo.sum s.data.toList : Nat), .int .u32 (Fo.sum t.data.toList : Nat), .int .i64 (t.size : Int)] w fun e w' =>
      e = .returned (.tuple #[.int .u32 (Fo.sum (s ++ t).data.toList : Nat), .int .i64 0]) ∧ w' = w := by
  have h1 := Fo.sum_lt s.data.toList
  have h2 := Fo.sum_lt t.data.toList
  have a1 := Fo.A_lt s.data.toList
  have a2 := Fo.A_lt t.data.toList
  have b1 := Fo.B_lt s.data.toList
  have b2 := Fo.B_lt t.data.toList
  have e1 := @ends s.data.toList
  have e2 := @ends t.data.toList
  have h := join_good (Fo.sum s.data.toList : Nat) (Fo.sum t.data.toList : Nat) (t.size : Int) w (by omega) (by omega) (by omega) (by omega) (by omega) (by omega) (by omega) (by omega) (by omega) (by omega)
  rw [e1.1, e1.2, e2.1, e2.2] at h
  have e : ((Fo.B s.data.toList : Nat) : Int) + ((Fo.B t.data.toList : Nat) : Int) + (t.size : Int) * ((((Fo.A s.data.toList : Nat) : Int) + 65520) % 65521) = ((Fo.B s.data.toList + Fo.B t.data.toList + t.data.toList.length * ((Fo.A s.data.toList + 65520) % 65521) : Nat) : Int) := by
    rw [list_len, Int.natCast_add, Int.natCast_add, Int.natCast_mul, Int.natCast_emod, Int.natCast_add]; rfl
  have j1 := Fo.join_A s.data.toList t.data.toList
  have j2 := Fo.join_B s.data.toList t.data.toList
  rw [e] at h
  have e4 : Fo.sum (s ++ t).data.toList = Fo.joinB (Fo.A s.data.toList) (Fo.B s.data.toList) (Fo.B t.data.toList) t.data.toList.length * 65536 + Fo.joinA (Fo.A s.data.toList) (Fo.A t.data.toList) := by
    rw [ByteArray.data_append, Array.toList_append, Fo.sum, ← j1, ← j2]
  rw [e4]
  unfold Fo.joinA Fo.joinB Fo.joinF
  generalize Fo.B s.data.toList + Fo.B t.data.toList + t.data.toList.length * ((Fo.A s.data.toList + 65520) % 65521) = P at *
  have e3 : ((P % 65521 * 65536 + ((Fo.A s.data.toList + 65520) % 65521 + Fo.A t.data.toList) % 65521 : Nat) : Int) = (P : Int) % 65521 * 65536 + (((Fo.A s.data.toList : Int) + 65520) % 65521 + (Fo.A t.data.toList : Int)) % 65521 := by omega
  rw [e3]; exact h

theorem sum_none (w : World) : Calls Try.prog 5 #[.string ⟨#[]⟩] w fun e w' => e = .returned (.int .u32 1) ∧ w' = w :=
  sum_any ⟨#[]⟩ w (by unfold maxLen; decide)
theorem sum_wiki (w : World) : Calls Try.prog 5 #[.string ⟨#[87, 105, 107, 105, 112, 101, 100, 105, 97]⟩] w fun e w' => e = .returned (.int .u32 300286872) ∧ w' = w :=
  sum_any ⟨#[87, 105, 107, 105, 112, 101, 100, 105, 97]⟩ w (by unfold maxLen; decide)

set_option maxRecDepth 100000 in
set_option maxHeartbeats 2000000 in
theorem joins_large (s t : ByteArray) (w : World) (ht : 4096 < t.size) :
    Calls Try.prog 3 #[.string s, .string t] w fun r w' => r = .returned (.bool true) ∧ Below w.heap.size w w' := by
  have ht' : (4096 : Int) < (t.size : Int) := by omega
  go_enter Try.func3, Try.ntmps3
  go_wp2_with fail
  refine (sum_none _).mono ?_
  rintro r w1 ⟨rfl, rfl⟩
  go_wp2_with fail
  refine (sum_wiki _).mono ?_
  rintro r w2 ⟨rfl, rfl⟩
  go_wp2_with fail
  go_ret
  exact ⟨rfl, Below.refl _ _⟩

set_option maxRecDepth 100000 in
set_option maxHeartbeats 2000000 in
theorem joins_fits (s t : ByteArray) (w : World) (hs : s.size ≤ 140737488351232) (ht : t.size ≤ 4096) :
    Calls Try.prog 3 #[.string s, .string t] w fun r w' => r = .returned (.bool true) ∧ Below w.heap.size w w' := by
  have ht' : (t.size : Int) ≤ 4096 := by omega
  have hs' : (s.size : Int) ≤ 140737488351232 := by omega
  have H1 := hide fun W => sum_any s W (by unfold maxLen; omega)
  have H2 := hide fun W => sum_any t W (by unfold maxLen; omega)
  have H3 := hide fun W => join_sums s t W ht
  have H4 := hide fun W => sum_any (s ++ t) W (by rw [ByteArray.size_append]; unfold maxLen; omega)
  generalize ((Fo.sum s.data.toList : Nat) : Int) = x at *
  generalize ((Fo.sum t.data.toList : Nat) : Int) = y at *
  generalize ((Fo.sum (s ++ t).data.toList : Nat) : Int) = z at *
  go_enter Try.func3, Try.ntmps3
  go_wp2_with fail
  refine (sum_none _).mono ?_
  rintro r w1 ⟨rfl, rfl⟩
  go_wp2_with fail
  refine (sum_wiki _).mono ?_
  rintro r w2 ⟨rfl, rfl⟩
  go_wp2_with fail
  refine (H1.out _).mono ?_
  rintro r w3 ⟨rfl, rfl⟩
  go_wp2_with fail
  refine (H2.out _).mono ?_
  rintro r w4 ⟨rfl, rfl⟩
  go_wp2_with fail
  refine (H3.out _).mono ?_
  rintro r w5 ⟨rfl, rfl⟩
  go_wp2_with fail
  refine (H4.out _).mono ?_
  rintro r w6 ⟨rfl, rfl⟩
  go_wp2_with fail
  go_ret
  exact ⟨rfl, Below.refl _ _⟩

theorem joins_walk (a0 a1 : ByteArray) (h0 : a0.size ≤ 140737488351232) (_ : a1.size ≤ 140737488351232) (w : World) :
    Calls Try.prog 3 #[.string a0, .string a1] w fun e w' => e = .returned (.bool true) ∧ Below w.heap.size w w' := by
  by_cases h : a1.size ≤ 4096
  · exact joins_fits a0 a1 w h0 h
  · exact joins_large a0 a1 w (by omega)
end Go.Proofs.Ytmgdefjcmfmcfaf
