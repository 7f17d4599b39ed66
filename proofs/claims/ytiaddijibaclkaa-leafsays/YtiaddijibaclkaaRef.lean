/-
  The document's own answers (quirref.Nat, GetNat, Int, GetInt, Text, GetText), walked: each returns what the plain functions say that the program's calls return, and nothing that was there has turned. Conditions: an int's and a text's own bounds.
-/
import Derived.Test.YtiaddijibaclkaaRest
import Derived.Deep.RegionHeld3
import Derived.Deep.RegionWith
import Derived.WalkLawsBesides
namespace Go.Proofs.Ytiaddijibaclkaa.PCode
open Go.RowKit

theorem conv_one (W : World) (b : Nat) (c : Int) (h : W.cell? ⟨b, 0, none⟩ = some (.int .u8 c)) (h0 : 0 ≤ c) (h1 : c < 256) :
    (convert 95 9 (.slice (some ⟨b, 0, none⟩) 1 1)).run Try.prog W = .ok (.string ⟨[UInt8.ofNat c.toNat].toArray⟩) W := by
  refine run_convert_bytes_back W 95 9 5 ⟨b, 0, none⟩ 1 [UInt8.ofNat c.toNat] Try.underlying95 Try.underlying5 Try.underlying9 ?_
  intro j hj
  have hj0 : j = 0 := by simp at hj; exact hj
  subst hj0
  have e : ((UInt8.ofNat c.toNat).toNat : Int) = c := by rw [Nb.toNat_of _ (by omega)]; omega
  simp only [List.getElem_cons_zero, e]
  simpa [Addr.add] using h

theorem cat_cons (b : UInt8) (l : List UInt8) : (⟨[b].toArray⟩ ++ ⟨l.toArray⟩ : ByteArray) = ⟨(b :: l).toArray⟩ := by
  apply Go.WideShapes.bytes_inj
  rw [ByteArray.data_append, Array.toList_append]; rfl

theorem drawn1 {a c : World} (h : Below a.drew.heap.size a.drew c) : Below a.heap.size a c := ⟨h.os, h.tape, h.output, h.size, h.block⟩
theorem alloc_drawn {a c : World} {o : Obj} (h : Below ((a.alloc o).drew).heap.size ((a.alloc o).drew) c) : Below a.heap.size a c :=
  ((Below.refl _ a).alloc (Nat.le_refl _) o).trans ((drawn1 h).mono (by simp))
theorem drawn_alloc {a c : World} (h : Below a.drew.heap.size a.drew c) (o : Obj) : Below a.heap.size a (c.alloc o) := (drawn1 h).alloc h.size o

theorem raw_byte (n : Nat) : IntKind.u8.wrap (IntKind.u64.wrap ((n : Int).tmod 128 + 128)) = ((n % 128 + 128 : Nat) : Int) := by
  have e : (n : Int).tmod 128 = ((n % 128 : Nat) : Int) := by rw [Int.tmod_eq_emod_of_nonneg (by omega)]; omega
  rw [e, IntWalk.u64_in _ ⟨by omega, by omega⟩]
  simp [IntKind.wrap, IntKind.bits, IntKind.signed]
  omega
theorem raw_rest (n : Nat) (h : n < 18446744073709551616) : IntKind.u64.wrap ((n : Int) / 128) = ((n / 128 : Nat) : Int) := by
  rw [IntWalk.u64_in _ ⟨by omega, by omega⟩]; omega

set_option maxRecDepth 100000 in
set_option maxHeartbeats 1000000 in
theorem refNat_any (n : Nat) : ∀ w : World, n < 18446744073709551616 →
    Calls Try.prog 17 #[.int .u64 (n : Int)] w fun e w' => e = .returned (.string ⟨(Nb.natB n).toArray⟩) ∧ Below w.heap.size w w' := by
  induction n using Nat.strongRecOn with
  | _ n ih =>
    intro w hn
    have H : Hid (∀ (k : Int) (W : World), 0 ≤ k → k < (n : Int) → Calls Try.prog 17 #[.int .u64 k] W fun e w' => e = .returned (.string ⟨(Nb.natB k.toNat).toArray⟩) ∧ Below W.heap.size W w') := by
      intro k W h0 h1
      obtain ⟨m, rfl⟩ := Int.eq_ofNat_of_zero_le h0
      exact ih m (by omega) W (by omega)
    clear ih
    by_cases h : n < 128
    · have h' : decide ((n : Int) < 128) = true := by simp; omega
      have hc := fun (W : World) (b : Nat) (hx : W.cell? ⟨b, 0, none⟩ = some (.int .u8 (n : Int))) => conv_one W b (n : Int) hx (by omega) (by omega)
      have HE : Hid (Nb.natB n = [UInt8.ofNat n]) := Nb.natB_lt h
      go_enter Try.func17, Try.ntmps17
      go_wp2_with fail
      go_ret
      rw [HE.out]
      exact ⟨by simp, (Below.refl _ _).alloc (Nat.le_refl _) _⟩
    · have h' : decide ((n : Int) < 128) = false := by simp; omega
      have hr := raw_byte n
      have hc := fun (W : World) (b : Nat) (hx : W.cell? ⟨b, 0, none⟩ = some (.int .u8 (IntKind.u8.wrap (IntKind.u64.wrap ((n : Int).tmod 128 + 128))))) => conv_one W b _ hx (by omega) (by omega)
      have hq := raw_rest n hn
      have hk0 : 0 ≤ IntKind.u64.wrap ((n : Int) / 128) := by omega
      have hk1 : IntKind.u64.wrap ((n : Int) / 128) < (n : Int) := by omega
      have hl : (Nb.natB (IntKind.u64.wrap ((n : Int) / 128)).toNat).length ≤ 10 := Nb.natB_len10 _ (by omega)
      have HF : Hid ((⟨#[UInt8.ofNat ((n : Int) % 128 + 128).toNat]⟩ ++ ⟨(Nb.natB (n / 128)).toArray⟩ : ByteArray) = ⟨(Nb.natB n).toArray⟩) := by
        show _ = _
        rw [Nb.natB_ge h, show ((n : Int) % 128 + 128).toNat = n % 128 + 128 from by omega]
        exact cat_cons _ _
      clear hr hq
      go_enter Try.func17, Try.ntmps17
      go_wp2_with fail
      go_region_with ((go_at_call 17; refine (H.out _ _ hk0 hk1).mono ?_; rintro r w1 ⟨rfl, hb1⟩; try have hcell : w1.cell? ⟨w.heap.size, 0, none⟩ = some (.int .u8 (IntKind.u8.wrap (IntKind.u64.wrap ((n : Int).tmod 128 + 128)))) := by (rw [hb1.cell (p := ⟨w.heap.size, 0, none⟩) (by simp)]; simp)))
      all_goals go_wp2_with fail
      all_goals go_ret
      all_goals refine ⟨congrArg (fun x => Ending.returned (.string x)) HF.out, ?_⟩
      all_goals first | exact alloc_drawn hb1 | exact drawn_alloc hb1 _

theorem refNat_int (n : Int) (w : World) (h0 : 0 ≤ n) (h1 : n ≤ 18446744073709551615) :
    Calls Try.prog 17 #[.int .u64 n] w fun e w' => e = .returned (.string ⟨(Nb.natB n.toNat).toArray⟩) ∧ Below w.heap.size w w' := by
  obtain ⟨m, rfl⟩ := Int.eq_ofNat_of_zero_le h0
  exact refNat_any m w (by omega)

set_option maxRecDepth 100000 in
theorem refInt_any (k : Int) (w : World) (h0 : -9223372036854775808 ≤ k) (h1 : k ≤ 9223372036854775807) :
    Calls Try.prog 19 #[.int .i64 k] w fun e w' => e = .returned (.string ⟨(Nb.natB (Nb.zig k)).toArray⟩) ∧ Below w.heap.size w w' := by
  by_cases hk : 0 ≤ k
  · have HZ : Hid (Nb.zig k = (k * 2).toNat) := by show _ = _; simp only [Nb.zig, if_pos hk]; omega
    go_enter Try.func19, Try.ntmps19
    go_wp2_with (go_at_call 17; refine (refNat_int _ _ (by omega) (by omega)).mono ?_; rintro e w' ⟨rfl, hb⟩)
    go_ret
    rw [HZ.out]
    exact ⟨rfl, hb⟩
  · have HZ : Hid (Nb.zig k = (-(k + 1) * 2 + 1).toNat) := by show _ = _; simp only [Nb.zig, if_neg hk]; omega
    go_enter Try.func19, Try.ntmps19
    go_wp2_with (go_at_call 17; refine (refNat_int _ _ (by omega) (by omega)).mono ?_; rintro e w' ⟨rfl, hb⟩)
    go_ret
    rw [HZ.out]
    exact ⟨rfl, hb⟩

set_option maxRecDepth 100000 in
theorem refText_any (s : ByteArray) (w : World) (h : s.size ≤ 140737488355328) :
    Calls Try.prog 15 #[.string s] w fun e w' => e = .returned (.string (⟨(Nb.natB s.size).toArray⟩ ++ s)) ∧ Below w.heap.size w w' := by
  have h' : (s.size : Int) ≤ 140737488355328 := by omega
  have hl : (Nb.natB s.size).length ≤ 10 := Nb.natB_len10 s.size (by omega)
  go_enter Try.func15, Try.ntmps15
  go_wp2_with (go_at_call 17; refine (refNat_int _ _ (by omega) (by omega)).mono ?_; rintro e w' ⟨rfl, hb⟩)
  go_ret
  exact ⟨rfl, hb⟩

namespace Nb
/- the number of a list of bytes, the lowest seven bits first -/
def val : List UInt8 → Nat
  | [] => 0
  | b :: r => b.toNat % 128 + 128 * val r
theorem val_snoc (l : List UInt8) (b : UInt8) : val (l ++ [b]) = val l + b.toNat % 128 * 128 ^ l.length := by
  induction l with
  | nil => simp [val]
  | cons a r ih =>
    simp only [List.cons_append, val, ih, List.length_cons, Nat.pow_succ]
    have : 128 * (b.toNat % 128 * 128 ^ r.length) = b.toNat % 128 * (128 ^ r.length * 128) := by
      rw [Nat.mul_comm 128, Nat.mul_assoc]
    omega
theorem val_drop_le (l : List UInt8) : ∀ p, val (l.drop p) ≤ val l := by
  induction l with
  | nil => intro p; simp
  | cons a r ih =>
    intro p
    cases p with
    | zero => simp
    | succ p => have := ih p; simp only [List.drop_succ_cons, val]; omega
theorem val_lt (l : List UInt8) : val l < 128 ^ l.length := by
  induction l with
  | nil => simp [val]
  | cons a r ih => simp only [val, List.length_cons, Nat.pow_succ]; omega
end Nb

theorem take_snoc (s : ByteArray) (k : Nat) (h : k < s.size) : s.data.toList.take (k + 1) = s.data.toList.take k ++ [s[k]] := by
  rw [List.take_succ_eq_append_getElem (by simpa using h)]; rfl
theorem take_len (s : ByteArray) (k : Nat) (h : k ≤ s.size) : (s.data.toList.take k).length = k := by
  have : s.data.toList.length = s.size := by rw [Array.length_toList]; rfl
  rw [List.length_take]; omega
theorem val_take (s : ByteArray) (k : Nat) (h : k < s.size) : Nb.val (s.data.toList.take (k + 1)) = Nb.val (s.data.toList.take k) + s[k].toNat % 128 * 128 ^ k := by
  rw [take_snoc s k h, Nb.val_snoc, take_len s k (by omega)]
theorem val_step (s : ByteArray) (i p : Nat) (hi : i < s.size) (hp : p ≤ i) :
    Nb.val ((s.data.toList.take (i + 1)).drop p) = Nb.val ((s.data.toList.take (i + 1)).drop (p + 1)) * 128 + (s[p]'(by omega)).toNat % 128 := by
  have hl := take_len s (i + 1) (by omega)
  rw [List.drop_eq_getElem_cons (by omega), Nb.val, List.getElem_take]
  have : (s.data.toList[p]'(by rw [Array.length_toList]; show p < s.size; omega)) = s[p]'(by omega) := rfl
  rw [this]; omega

set_option maxRecDepth 100000 in
set_option maxHeartbeats 1000000 in
theorem refGet_any (s : ByteArray) (w : World) (hs : s.size ≤ maxLen) :
    Calls Try.prog 9 #[.string s] w fun e w' => e = .returned (.tuple #[.int .u64 (Nb.getN 0 0 s.data.toList).1, .int .i64 (Nb.getN 0 0 s.data.toList).2.1, .int .i64 (Nb.getN 0 0 s.data.toList).2.2]) ∧ w' = w := by
  unfold maxLen at hs
  generalize hG : Nb.getN 0 0 s.data.toList = G
  go_enter Try.func9, Try.ntmps9
  go_wp2
  go_loop [10] (fun i => ∃ k : Nat, k ≤ s.size ∧ k ≤ 9 ∧ i = .int .i64 (k : Int) ∧ G = Nb.getN k (Nb.val (s.data.toList.take k)) (s.data.toList.drop k))
    (fun i => s.size - (intOf i).toNat)
  case atStart => exact ⟨0, by omega, by omega, rfl, by rw [← hG]; rfl⟩
  case round =>
    obtain ⟨k, hk, hk9, rfl, hd⟩ := hrel
    have HD : Hid (G = Nb.getN k (Nb.val (s.data.toList.take k)) (s.data.toList.drop k)) := hd
    clear hd hG
    have hacc : Nb.val (s.data.toList.take k) < 128 ^ k := by have := Nb.val_lt (s.data.toList.take k); rwa [take_len s k hk] at this
    by_cases hlt : k < s.size
    · have hc : (s[k].toNat : Int) < 256 := by have := s[k].toNat_lt; omega
      have HA : Hid (Nb.val (s.data.toList.take k) < 128 ^ k) := hacc
      clear hacc
      go_wp2
      · obtain rfl : k = 9 := by omega
        have h1 : (1 : Int) < (s[9].toNat : Int) := by assumption
        have hv : G = (0, 0, 2) := by rw [HD.out, step_large hlt rfl h1]
        go_ret3
        exact ⟨by rw [hv]; rfl, rfl⟩
      · obtain rfl : k = 9 := by omega
        have h0 : s[9].toNat = 0 := by assumption
        have hv : G = (0, 0, 4) := by rw [HD.out, step_form hlt h0 (by omega)]
        go_ret3
        exact ⟨by rw [hv]; rfl, rfl⟩
      · obtain rfl : k = 9 := by omega
        have h1 : (s[9].toNat : Int) ≤ 1 := by assumption
        have h0 : ¬ s[9].toNat = 0 := by assumption
        have hv := HD.out.trans (step_end hlt (by omega) (by omega) (by omega))
        have hb := step_bound (c := s[9].toNat) hk9 HA.out (by omega)
        rw [← val_take s 9 hlt] at hv hb
        have HV : Hid (G = (Nb.val (List.take (9 + 1) s.data.toList), 9 + 1, 0)) := hv
        have HB : Hid (Nb.val (List.take (9 + 1) s.data.toList) < 18446744073709551616) := hb
        clear hv hb HD HA
        go_loop [6, 7] (fun x j => ∃ p : Nat, p ≤ 9 + 1 ∧ j = .int .i64 ((p : Int) - 1) ∧ x = .int .u64 ((Nb.val ((s.data.toList.take (9 + 1)).drop p) : Nat) : Int)) (fun _ j => (intOf j + 1).toNat)
        case atStart => exact ⟨9 + 1, by omega, by go_num, by rw [List.drop_of_length_le (by rw [take_len s (9 + 1) (by omega)]; omega)]; rfl⟩
        case round =>
          obtain ⟨p, hp, rfl, rfl⟩ := hrel
          cases p with
          | zero =>
            have HZ : Hid (((Nb.val (List.drop 0 (List.take (9 + 1) s.data.toList)) : Nat) : Int) = ((Nb.val (List.take (9 + 1) s.data.toList) : Nat) : Int)) := by show _ = _; rw [List.drop_zero]
            generalize ((Nb.val (List.drop 0 (List.take (9 + 1) s.data.toList)) : Nat) : Int) = Z at *
            go_wp2
            go_ret3
            exact ⟨by rw [HV.out]; exact ret3 HZ.out (by simp) rfl, rfl⟩
          | succ q =>
            have hst := val_step s 9 q hlt (by omega)
            have hle := Nb.val_drop_le (List.take (9 + 1) s.data.toList) q
            have hqs : q < s.size := by omega
            have hqi : (q : Int) < (s.size : Int) := by omega
            have hmax : ((Nb.val (List.drop (q + 1) (List.take (9 + 1) s.data.toList)) : Nat) : Int) * 128 + (s[q].toNat : Int) % 128 ≤ 18446744073709551615 := by have := HB.out; omega
            have HS : Hid (((Nb.val (List.drop (q + 1) (List.take (9 + 1) s.data.toList)) : Nat) : Int) * 128 + (s[q].toNat : Int) % 128 = ((Nb.val (List.drop q (List.take (9 + 1) s.data.toList)) : Nat) : Int)) := by show _ = _; omega
            have hq1 : (((q + 1 : Nat) : Int) - 1) = (q : Int) := by omega
            rw [hq1]
            have hV0 : 0 ≤ ((Nb.val (List.drop (q + 1) (List.take (9 + 1) s.data.toList)) : Nat) : Int) := by omega
            generalize ((Nb.val (List.drop (q + 1) (List.take (9 + 1) s.data.toList)) : Nat) : Int) = Z at *
            clear hst hle hq1
            go_wp2
            go_round
            case rel => exact ⟨q, by omega, by go_num, by rw [HS.out]⟩
            case measure => simp [intOf]
      · have h9 : ¬ (k : Int) = 9 := by assumption
        have h128 : (128 : Int) ≤ (s[k].toNat : Int) := by assumption
        have hv := HD.out.trans (step_more hlt h9 h128)
        rw [← val_take s k hlt] at hv
        go_round
        case rel => exact ⟨k + 1, by omega, by omega, by go_num, hv⟩
        case measure => simp [intOf]; omega
      · have h0 : s[k].toNat = 0 := by assumption
        have hp : 0 < k := by assumption
        have hv : G = (0, 0, 4) := by rw [HD.out, step_form hlt h0 hp]
        go_ret3
        exact ⟨by rw [hv]; rfl, rfl⟩
      · have hp : ¬ 0 < k := by assumption
        have h0 : s[k].toNat = 0 := by assumption
        have hv := HD.out.trans (step_end hlt (by omega) (by omega) (by omega))
        have hb := step_bound (c := s[k].toNat) hk9 HA.out (by omega)
        rw [← val_take s k hlt] at hv hb
        have HV : Hid (G = (Nb.val (List.take (k + 1) s.data.toList), k + 1, 0)) := hv
        have HB : Hid (Nb.val (List.take (k + 1) s.data.toList) < 18446744073709551616) := hb
        clear hv hb HD HA
        go_loop [6, 7] (fun x j => ∃ p : Nat, p ≤ k + 1 ∧ j = .int .i64 ((p : Int) - 1) ∧ x = .int .u64 ((Nb.val ((s.data.toList.take (k + 1)).drop p) : Nat) : Int)) (fun _ j => (intOf j + 1).toNat)
        case atStart => exact ⟨k + 1, by omega, by go_num, by rw [List.drop_of_length_le (by rw [take_len s (k + 1) (by omega)]; omega)]; rfl⟩
        case round =>
          obtain ⟨p, hp, rfl, rfl⟩ := hrel
          cases p with
          | zero =>
            have HZ : Hid (((Nb.val (List.drop 0 (List.take (k + 1) s.data.toList)) : Nat) : Int) = ((Nb.val (List.take (k + 1) s.data.toList) : Nat) : Int)) := by show _ = _; rw [List.drop_zero]
            generalize ((Nb.val (List.drop 0 (List.take (k + 1) s.data.toList)) : Nat) : Int) = Z at *
            go_wp2
            go_ret3
            exact ⟨by rw [HV.out]; exact ret3 HZ.out (by simp) rfl, rfl⟩
          | succ q =>
            have hst := val_step s k q hlt (by omega)
            have hle := Nb.val_drop_le (List.take (k + 1) s.data.toList) q
            have hqs : q < s.size := by omega
            have hqi : (q : Int) < (s.size : Int) := by omega
            have hmax : ((Nb.val (List.drop (q + 1) (List.take (k + 1) s.data.toList)) : Nat) : Int) * 128 + (s[q].toNat : Int) % 128 ≤ 18446744073709551615 := by have := HB.out; omega
            have HS : Hid (((Nb.val (List.drop (q + 1) (List.take (k + 1) s.data.toList)) : Nat) : Int) * 128 + (s[q].toNat : Int) % 128 = ((Nb.val (List.drop q (List.take (k + 1) s.data.toList)) : Nat) : Int)) := by show _ = _; omega
            have hq1 : (((q + 1 : Nat) : Int) - 1) = (q : Int) := by omega
            rw [hq1]
            have hV0 : 0 ≤ ((Nb.val (List.drop (q + 1) (List.take (k + 1) s.data.toList)) : Nat) : Int) := by omega
            generalize ((Nb.val (List.drop (q + 1) (List.take (k + 1) s.data.toList)) : Nat) : Int) = Z at *
            clear hst hle hq1
            go_wp2
            go_round
            case rel => exact ⟨q, by omega, by go_num, by rw [HS.out]⟩
            case measure => simp [intOf]
      · have h9 : ¬ (k : Int) = 9 := by assumption
        have h1 : (s[k].toNat : Int) < 128 := by assumption
        have h0 : ¬ s[k].toNat = 0 := by assumption
        have hv := HD.out.trans (step_end hlt (by omega) (by omega) (by omega))
        have hb := step_bound (c := s[k].toNat) hk9 HA.out (by omega)
        rw [← val_take s k hlt] at hv hb
        have HV : Hid (G = (Nb.val (List.take (k + 1) s.data.toList), k + 1, 0)) := hv
        have HB : Hid (Nb.val (List.take (k + 1) s.data.toList) < 18446744073709551616) := hb
        clear hv hb HD HA
        go_loop [6, 7] (fun x j => ∃ p : Nat, p ≤ k + 1 ∧ j = .int .i64 ((p : Int) - 1) ∧ x = .int .u64 ((Nb.val ((s.data.toList.take (k + 1)).drop p) : Nat) : Int)) (fun _ j => (intOf j + 1).toNat)
        case atStart => exact ⟨k + 1, by omega, by go_num, by rw [List.drop_of_length_le (by rw [take_len s (k + 1) (by omega)]; omega)]; rfl⟩
        case round =>
          obtain ⟨p, hp, rfl, rfl⟩ := hrel
          cases p with
          | zero =>
            have HZ : Hid (((Nb.val (List.drop 0 (List.take (k + 1) s.data.toList)) : Nat) : Int) = ((Nb.val (List.take (k + 1) s.data.toList) : Nat) : Int)) := by show _ = _; rw [List.drop_zero]
            generalize ((Nb.val (List.drop 0 (List.take (k + 1) s.data.toList)) : Nat) : Int) = Z at *
            go_wp2
            go_ret3
            exact ⟨by rw [HV.out]; exact ret3 HZ.out (by simp) rfl, rfl⟩
          | succ q =>
            have hst := val_step s k q hlt (by omega)
            have hle := Nb.val_drop_le (List.take (k + 1) s.data.toList) q
            have hqs : q < s.size := by omega
            have hqi : (q : Int) < (s.size : Int) := by omega
            have hmax : ((Nb.val (List.drop (q + 1) (List.take (k + 1) s.data.toList)) : Nat) : Int) * 128 + (s[q].toNat : Int) % 128 ≤ 18446744073709551615 := by have := HB.out; omega
            have HS : Hid (((Nb.val (List.drop (q + 1) (List.take (k + 1) s.data.toList)) : Nat) : Int) * 128 + (s[q].toNat : Int) % 128 = ((Nb.val (List.drop q (List.take (k + 1) s.data.toList)) : Nat) : Int)) := by show _ = _; omega
            have hq1 : (((q + 1 : Nat) : Int) - 1) = (q : Int) := by omega
            rw [hq1]
            have hV0 : 0 ≤ ((Nb.val (List.drop (q + 1) (List.take (k + 1) s.data.toList)) : Nat) : Int) := by omega
            generalize ((Nb.val (List.drop (q + 1) (List.take (k + 1) s.data.toList)) : Nat) : Int) = Z at *
            clear hst hle hq1
            go_wp2
            go_round
            case rel => exact ⟨q, by omega, by go_num, by rw [HS.out]⟩
            case measure => simp [intOf]
    · have HV : Hid (G = (0, 0, 3)) := by show _ = _; rw [HD.out, step_short hlt]
      clear HD hacc
      go_wp2
      go_ret3
      exact ⟨by rw [HV.out]; rfl, rfl⟩

theorem refGet_at (s : ByteArray) (w : World) (x t e : Nat) (hs : s.size ≤ maxLen) (hG : Nb.getN 0 0 s.data.toList = (x, t, e)) :
    Calls Try.prog 9 #[.string s] w fun r w' => r = .returned (.tuple #[.int .u64 (x : Int), .int .i64 (t : Int), .int .i64 (e : Int)]) ∧ w' = w := by
  have h := refGet_any s w hs
  rw [hG] at h
  exact h

set_option maxRecDepth 100000 in
theorem refGetInt_any (s : ByteArray) (w : World) (hs : s.size ≤ maxLen) :
    Calls Try.prog 11 #[.string s] w fun e w' => e = .returned (.tuple #[.int .i64 (Nb.getI s.data.toList).1, .int .i64 (Nb.getI s.data.toList).2.1, .int .i64 (Nb.getI s.data.toList).2.2]) ∧ w' = w := by
  have hb := Nb.get_bound s.data.toList 0 0 (by omega) (by omega)
  have HI := Nb.getI.eq_1 s.data.toList
  obtain ⟨x, t, e, hG⟩ : ∃ x t e, Nb.getN 0 0 s.data.toList = (x, t, e) := ⟨_, _, _, rfl⟩
  have HC : ∀ W, Calls Try.prog 9 #[.string s] W fun r w' => r = .returned (.tuple #[.int .u64 (x : Int), .int .i64 (t : Int), .int .i64 (e : Int)]) ∧ w' = W := fun W => refGet_at s W x t e hs hG
  rw [hG] at hb HI
  simp only at hb HI
  generalize Nb.getI s.data.toList = I at *
  clear hG
  have hx : (x : Int) ≤ 18446744073709551615 := by omega
  have ht : (t : Int) ≤ 10 := by omega
  by_cases he : e = 0
  · subst he
    rw [if_pos rfl] at HI
    have HC' : Hid (∀ W, Calls Try.prog 9 #[.string s] W fun r w' => r = .returned (.tuple #[.int .u64 (x : Int), .int .i64 (t : Int), .int .i64 ((0 : Nat) : Int)]) ∧ w' = W) := HC
    by_cases h2 : x % 2 = 0
    · have h2' : ((x : Int) % 2 == 1) = false := by simp; omega
      have HI' : Hid (I = (((x / 2 : Nat) : Int), t, 0)) := by show _ = _; rw [HI, Nb.zag, if_pos h2]
      clear HI HC hb
      go_enter Try.func11, Try.ntmps11
      go_wp2_with (go_at_call 9; refine (HC'.out _).mono ?_; rintro r w' ⟨rfl, rfl⟩)
      go_ret3
      rw [HI'.out]
      exact ⟨rfl, rfl⟩
    · have h2' : ((x : Int) % 2 == 1) = true := by simp; omega
      have HI' : Hid (I = (-((x / 2 : Nat) : Int) - 1, t, 0)) := by show _ = _; rw [HI, Nb.zag, if_neg h2]
      clear HI HC hb
      go_enter Try.func11, Try.ntmps11
      go_wp2_with (go_at_call 9; refine (HC'.out _).mono ?_; rintro r w' ⟨rfl, rfl⟩)
      go_ret3
      rw [HI'.out]
      exact ⟨rfl, rfl⟩
  · rw [if_neg he] at HI
    have HC' : Hid (∀ W, Calls Try.prog 9 #[.string s] W fun r w' => r = .returned (.tuple #[.int .u64 (x : Int), .int .i64 (t : Int), .int .i64 (e : Int)]) ∧ w' = W) := HC
    have he' : ((e : Int) != 0) = true := by simp; omega
    have HI' : Hid (I = (0, 0, e)) := HI
    clear HI HC hb
    go_enter Try.func11, Try.ntmps11
    go_wp2_with (go_at_call 9; refine (HC'.out _).mono ?_; rintro r w' ⟨rfl, rfl⟩)
    go_ret3
    rw [HI'.out]
    exact ⟨rfl, rfl⟩

set_option maxRecDepth 100000 in
theorem refGetText_any (s : ByteArray) (w : World) (hs : s.size ≤ maxLen) :
    Calls Try.prog 13 #[.string s] w fun e w' => e = .returned (.tuple #[.string (Nb.getT s).1, .int .i64 (Nb.getT s).2.1, .int .i64 (Nb.getT s).2.2]) ∧ w' = w := by
  have hb := Nb.get_bound s.data.toList 0 0 (by omega) (by omega)
  have HI := Nb.getT.eq_1 s
  obtain ⟨x, t, e, hG⟩ : ∃ x t e, Nb.getN 0 0 s.data.toList = (x, t, e) := ⟨_, _, _, rfl⟩
  have HC : Hid (∀ W, Calls Try.prog 9 #[.string s] W fun r w' => r = .returned (.tuple #[.int .u64 (x : Int), .int .i64 (t : Int), .int .i64 (e : Int)]) ∧ w' = W) := fun W => refGet_at s W x t e hs hG
  rw [hG] at hb HI
  simp only at hb HI
  generalize Nb.getT s = I at *
  have hlen : s.data.toList.length = s.size := by rw [Array.length_toList]; rfl
  clear hG
  have hx : (x : Int) ≤ 18446744073709551615 := by omega
  have ht : (t : Int) ≤ 10 := by omega
  have hts : t ≤ s.size := by omega
  unfold maxLen at hs
  clear hlen hb
  by_cases he : e = 0
  · subst he
    rw [if_pos rfl] at HI
    by_cases h1 : 4096 < x
    · have h1' : (4096 : Int) < (x : Int) := by omega
      have HI' : Hid (I = (⟨#[]⟩, 0, 2)) := by show _ = _; rw [HI, if_pos h1]
      clear HI
      go_enter Try.func13, Try.ntmps13
      go_wp2_with (go_at_call 9; refine (HC.out _).mono ?_; rintro r w' ⟨rfl, rfl⟩)
      go_ret3
      rw [HI'.out]
      exact ⟨rfl, rfl⟩
    · have h1' : (x : Int) ≤ 4096 := by omega
      by_cases h2 : s.size < t + x
      · have h2' : (s.size : Int) - (t : Int) < (x : Int) := by omega
        have HI' : Hid (I = (⟨#[]⟩, 0, 3)) := by show _ = _; rw [HI, if_neg h1, if_pos h2]
        clear HI
        go_enter Try.func13, Try.ntmps13
        go_wp2_with (go_at_call 9; refine (HC.out _).mono ?_; rintro r w' ⟨rfl, rfl⟩)
        go_ret3
        rw [HI'.out]
        exact ⟨rfl, rfl⟩
      · have h2' : (x : Int) ≤ (s.size : Int) - (t : Int) := by omega
        have HI' : Hid (I = (s.extract t (t + x), t + x, 0)) := by show _ = _; rw [HI, if_neg h1, if_neg h2]
        clear HI
        have hsl : ∀ W : World, (Instr.slice 9 (.string s) (some (.int .i64 (t : Int))) (some (.int .i64 ((t : Int) + (x : Int)))) none).run Try.prog W = .ok (.string (s.extract t (t + x))) W := fun W => by
          have h := run_slice_string (P := Try.prog) W 9 s .i64 .i64 (t : Int) ((t : Int) + (x : Int)) Try.underlying9 (by omega) (by omega) (by omega)
          rw [show ((t : Int)).toNat = t from by omega, show ((t : Int) + (x : Int)).toNat = t + x from by omega] at h
          exact h
        go_enter Try.func13, Try.ntmps13
        go_wp2_with (go_at_call 9; refine (HC.out _).mono ?_; rintro r w' ⟨rfl, rfl⟩)
        go_ret3
        rw [HI'.out]
        exact ⟨rfl, rfl⟩
  · rw [if_neg he] at HI
    have he' : ((e : Int) != 0) = true := by simp; omega
    have HI' : Hid (I = (⟨#[]⟩, 0, e)) := HI
    clear HI
    go_enter Try.func13, Try.ntmps13
    go_wp2_with (go_at_call 9; refine (HC.out _).mono ?_; rintro r w' ⟨rfl, rfl⟩)
    go_ret3
    rw [HI'.out]
    exact ⟨rfl, rfl⟩
end Go.Proofs.Ytiaddijibaclkaa.PCode
