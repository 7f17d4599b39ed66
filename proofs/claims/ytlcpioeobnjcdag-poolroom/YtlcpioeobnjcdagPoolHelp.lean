/- slices.Contains at numbers, quirkeep.hits, walked. Conditions: lengths that an int holds. -/
import Derived.Test.YtlcpioeobnjcdagPoolMove
namespace Go.Proofs.Ytlcpioeobnjcdag.PPool
open Go Go.RowKit
set_option maxRecDepth 100000

theorem contains_any (w : World) (a : Option Addr) (c : Nat) (X : List Int) (x : Int) (h : IntsAt w a X) (hn : X.length ≤ 9223372036854775807) :
    Calls Try.prog 22 #[.slice a X.length c, .int .i64 x] w fun e w' => e = .returned (.bool (decide (x ∈ X))) ∧ Below w.heap.size w w' := by
  have HI := hid (index_any w a c X x h hn)
  obtain ⟨Y, hY⟩ : ∃ Y, Y = decide (x ∈ X) := ⟨_, rfl⟩
  rw [← hY]
  obtain ⟨p, hp⟩ : ∃ p, p = place X x := ⟨_, rfl⟩
  rw [← hp] at HI
  have hd : Hid (decide ((0 : Int) ≤ p) = Y) := by
    show _ = _
    rw [hY, hp]
    unfold place
    by_cases e : x ∈ X
    · rw [if_pos e]; simp [e]
    · rw [if_neg e]; simp [e]
  clear hY hp h
  go_enter Try.func22, Try.ntmps22
  go_wp2_with fail
  refine (HI.out).mono ?_
  rintro r w1 ⟨rfl, hb⟩
  have B := hid hb
  clear hb
  go_wp2_with fail
  go_ret
  exact ⟨by rw [← hd.out]; rfl, B.out⟩

theorem hits_next {H : List Bool} {k : Nat} {b : Bool} (h : H[k]? = some b) : Pl.hits (H.take (k + 1)) = Pl.hits (H.take k) + (if b then 1 else 0) := by
  obtain ⟨h1, h2⟩ := List.getElem?_eq_some_iff.1 h
  unfold Pl.hits
  rw [List.take_succ_eq_append_getElem h1, List.countP_append, h2]
  cases b <;> simp

set_option maxHeartbeats 400000 in
theorem hits_any (w : World) (a : Option Addr) (c : Nat) (H : List Bool) (h : BoolsAt w a H) (hn : H.length ≤ 140737488355328) :
    Calls Try.prog 16 #[.slice a H.length c] w fun e w' => e = .returned (.int .i64 (Pl.hits H : Int)) ∧ Below w.heap.size w w' := by
  have H1 := hid h
  obtain ⟨Y, hY⟩ : ∃ Y, Y = Pl.hits H := ⟨_, rfl⟩
  rw [← hY]
  have HY := hid hY
  clear h hY
  go_enter Try.func16, Try.ntmps16
  go_wp2_with fail
  go_loopw [8, 3] (fun i n wr => ∃ k m : Nat, k ≤ H.length ∧ m ≤ k ∧ i = .int .i64 (k : Int) ∧ n = .int .i64 (m : Int) ∧ Hid (m = Pl.hits (H.take k)) ∧ Hid (Below w.heap.size w wr)) (fun i _ _ => H.length - (intOf i).toNat)
  case atStart => exact ⟨0, 0, Nat.zero_le _, Nat.le_refl _, rfl, rfl, rfl, Below.refl _ _⟩
  case round =>
    obtain ⟨k, m, hk, hm, rfl, rfl, hM, hb⟩ := hrel
    by_cases hlt : k < H.length
    · obtain ⟨x, hx⟩ : ∃ x, H[k]? = some x := ⟨_, List.getElem?_eq_getElem hlt⟩
      obtain ⟨b, o, rfl, d1⟩ := (H1.out.below hb.out) k x hx
      have k0 : (0 : Int) ≤ (k : Int) := by omega
      have k1 : (k : Int) < (H.length : Int) := by omega
      have m1 : (m : Int) ≤ 140737488355328 := by omega
      have hN := hits_next hx
      clear hx
      cases x with
      | true =>
        have NX : Hid (m + 1 = Pl.hits (H.take (k + 1))) := by show _ = _; rw [hN, ← hM.out]; rfl
        clear hN
        go_wp2_with fail
        go_roundw
        case rel => exact ⟨k + 1, m + 1, by omega, by omega, by go_num, by go_num, NX, hb⟩
        case measure => simp [intOf]; omega
      | false =>
        have NX : Hid (m = Pl.hits (H.take (k + 1))) := by show _ = _; rw [hN, ← hM.out]; rfl
        clear hN
        go_wp2_with fail
        go_roundw
        case rel => exact ⟨k + 1, m, by omega, by omega, by go_num, rfl, NX, hb⟩
        case measure => simp [intOf]; omega
    · obtain rfl : k = H.length := by omega
      have j3 : decide ((H.length : Int) < (H.length : Int)) = false := by simp
      have HK : Hid (Y = m) := by show _ = _; rw [HY.out, hM.out, List.take_length]
      clear HY
      go_wp2_with fail
      go_ret
      exact ⟨by rw [HK.out]; rfl, hb.out⟩

end Go.Proofs.Ytlcpioeobnjcdag.PPool
