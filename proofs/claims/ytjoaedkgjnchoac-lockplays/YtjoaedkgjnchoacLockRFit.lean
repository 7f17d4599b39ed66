/- quirref.Fits and Join, walked: each answers what the plain words say; the world stays as it is. Conditions: modes. -/
import Derived.Test.YtjoaedkgjnchoacLockMod
namespace Go.Proofs.Ytjoaedkgjnchoac.PLock
open Go Go.RowKit
set_option maxRecDepth 100000

theorem rfits_any (w : World) (a b : Int) : Calls Try.prog 8 #[.int .i64 a, .int .i64 b] w fun e w' => e = .returned (.bool (Lk.fit a b)) ∧ w' = w := by
  obtain ⟨Y, hY⟩ : ∃ Y, Y = Lk.fit a b := ⟨_, rfl⟩
  rw [← hY]
  unfold Lk.fit at hY
  obtain ⟨A, B, hA, hB, hmin, hmax⟩ := mm a b
  rw [← hA, ← hB] at hY
  have HY := hid hY
  clear hY hA hB
  by_cases h1 : A = 1
  · have e1 : Hid (Y = (B != 5)) := by have := HY.out; rw [if_pos h1] at this; rw [this]; show decide _ = _; by_cases h : B = 5 <;> simp [h]
    subst h1
    clear HY
    go_enter Try.func8, Try.ntmps8
    go_wp2_with fail
    go_ret
    exact ⟨by rw [e1.out]; rfl, rfl⟩
  · by_cases h2 : A = 2 ∨ A = 3
    · have e1 : Hid (Y = (B == A)) := by have := HY.out; rw [if_neg h1, if_pos h2] at this; rw [this]; rfl
      clear HY h1
      rcases h2 with rfl | rfl
      · go_enter Try.func8, Try.ntmps8
        go_wp2_with fail
        go_ret
        exact ⟨by rw [e1.out]; rfl, rfl⟩
      · go_enter Try.func8, Try.ntmps8
        go_wp2_with fail
        go_ret
        exact ⟨by rw [e1.out]; rfl, rfl⟩
    · have e1 : Hid (Y = false) := by have := HY.out; rw [if_neg h1, if_neg h2] at this; exact this
      have j1 : (A == 1) = false := by simpa using h1
      have j2 : (A == 2) = false := by simp; omega
      have j3 : (A == 3) = false := by simp; omega
      clear HY h1 h2
      go_enter Try.func8, Try.ntmps8
      go_wp2_with fail
      go_ret
      exact ⟨by rw [e1.out]; rfl, rfl⟩
/-- The least mode that fits nothing that either doesn't: what has been found ahead of a mode; of a mode, ahead of another. -/
def okJ (a b m : Int) : Nat → Bool
  | 0 => true
  | k + 1 => okJ a b m k && (!Lk.fit m ((k : Int) + 1) || (Lk.fit a ((k : Int) + 1) && Lk.fit b ((k : Int) + 1)))
def outJ (a b : Int) : Nat → Int
  | 0 => 5
  | t + 1 => if okJ a b (5 - (t : Int)) 5 then 5 - (t : Int) else outJ a b t
theorem outJ_all {a b : Int} (ha : Lk.mode a = true) (hb : Lk.mode b = true) : outJ a b 5 = Lk.join a b := by
  rcases Lk.modes ha with rfl | rfl | rfl | rfl | rfl <;> rcases Lk.modes hb with rfl | rfl | rfl | rfl | rfl <;> rfl

set_option maxHeartbeats 2000000 in
theorem rjoin_any (w : World) (a b : Int) (ha : Lk.mode a = true) (hb : Lk.mode b = true) : Calls Try.prog 9 #[.int .i64 a, .int .i64 b] w fun e w' => e = .returned (.int .i64 (Lk.join a b)) ∧ w' = w := by
  rw [← outJ_all ha hb]
  have KF := hid fun a b => rfits_any w a b
  clear ha hb
  go_enter Try.func9, Try.ntmps9
  go_wp2_with fail
  go_loopw [5, 6, 7, 8] (fun o m _ _ wr => ∃ t : Nat, t ≤ 5 ∧ m = .int .i64 (5 - (t : Int)) ∧ o = .int .i64 (outJ a b t) ∧ w = wr) (fun _ m _ _ _ => (intOf m).toNat)
  case atStart => exact ⟨0, by omega, rfl, rfl, rfl⟩
  case round =>
    obtain ⟨t, ht, rfl, rfl, rfl⟩ := hrel
    by_cases h5 : t < 5
    · have t0 : (1 : Int) ≤ 5 - (t : Int) := by omega
      have HO : Hid (outJ a b (t + 1) = if okJ a b (5 - (t : Int)) 5 then 5 - (t : Int) else outJ a b t) := rfl
      have hm1 : IntKind.i64.wrap (5 - (t : Int) - 1) = 5 - ((t + 1 : Nat) : Int) := by rw [IntWalk.i64_in _ ⟨by omega, by omega⟩]; omega
      have hm2 : wrap64 (5 - (t : Int) - 1) = 5 - ((t + 1 : Nat) : Int) := by rw [← IntWalk.i64_left]; exact hm1
      obtain ⟨O, hOe⟩ : ∃ O, O = outJ a b t := ⟨_, rfl⟩
      obtain ⟨m, hm⟩ : ∃ m, m = 5 - (t : Int) := ⟨_, rfl⟩
      have hm5 : Hid (m.toNat = 5 - t) := by show _ = _; omega
      rw [← hOe] at HO ⊢
      rw [← hm] at HO hm1 hm2 t0 ⊢
      clear hOe hm
      go_wp2_with fail
      go_loopw [7, 8] (fun ok k wr => ∃ j : Nat, j ≤ 5 ∧ k = .int .i64 ((j : Int) + 1) ∧ ok = .bool (okJ a b m j) ∧ w = wr) (fun _ k _ => 6 - (intOf k).toNat)
      case atStart => exact ⟨0, by omega, rfl, rfl, rfl⟩
      case round =>
        obtain ⟨j, hj, rfl, rfl, rfl⟩ := hrel
        by_cases hj5 : j < 5
        · have j1 : (j : Int) + 1 ≤ 5 := by omega
          have HK : Hid (okJ a b m (j + 1) = (okJ a b m j && (!Lk.fit m ((j : Int) + 1) || (Lk.fit a ((j : Int) + 1) && Lk.fit b ((j : Int) + 1))))) := rfl
          have K1 := hid (KF.out m ((j : Int) + 1))
          have K2 := hid (KF.out a ((j : Int) + 1))
          have K3 := hid (KF.out b ((j : Int) + 1))
          have hw1 : IntKind.i64.wrap ((j : Int) + 1 + 1) = (j : Int) + 1 + 1 := IntWalk.i64_in _ ⟨by omega, by omega⟩
          generalize okJ a b m j = ok at *
          generalize Lk.fit m ((j : Int) + 1) = f1 at *
          generalize Lk.fit a ((j : Int) + 1) = f2 at *
          generalize Lk.fit b ((j : Int) + 1) = f3 at *
          cases ok with
          | false =>
            go_wp2_with fail
            go_roundw
            case rel => exact ⟨j + 1, by omega, by go_num, by rw [HK.out]; rfl, by trivial⟩
            case measure => simp [intOf]; omega
          | true =>
            cases f1 with
            | false =>
              go_wp2_with fail
              refine K1.out.mono ?_
              rintro r w1 ⟨rfl, hw⟩
              obtain rfl := hw.symm
              go_wp2_with fail
              go_roundw
              case rel => exact ⟨j + 1, by omega, by go_num, by rw [HK.out]; rfl, by trivial⟩
              case measure => simp [intOf]; omega
            | true =>
              cases f2 with
              | false =>
                go_wp2_with fail
                refine K1.out.mono ?_
                rintro r w1 ⟨rfl, hw⟩
                obtain rfl := hw.symm
                go_wp2_with fail
                refine K2.out.mono ?_
                rintro r w1 ⟨rfl, hw⟩
                obtain rfl := hw.symm
                go_wp2_with fail
                go_roundw
                case rel => exact ⟨j + 1, by omega, by go_num, by rw [HK.out]; rfl, by trivial⟩
                case measure => simp [intOf]; omega
              | true =>
                go_wp2_with fail
                refine K1.out.mono ?_
                rintro r w1 ⟨rfl, hw⟩
                obtain rfl := hw.symm
                go_wp2_with fail
                refine K2.out.mono ?_
                rintro r w1 ⟨rfl, hw⟩
                obtain rfl := hw.symm
                go_wp2_with fail
                refine K3.out.mono ?_
                rintro r w1 ⟨rfl, hw⟩
                obtain rfl := hw.symm
                go_wp2_with fail
                go_roundw
                case rel => exact ⟨j + 1, by omega, by go_num, by rw [HK.out]; rfl, by trivial⟩
                case measure => simp [intOf]; omega
        · obtain rfl : j = 5 := by omega
          obtain ⟨ok, hok⟩ : ∃ ok, ok = okJ a b m 5 := ⟨_, rfl⟩
          rw [← hok] at HO ⊢
          clear hok
          cases ok with
          | true =>
            go_wp2_with fail
            go_roundw
            case rel => exact ⟨t + 1, by omega, rfl, by rw [HO.out]; rfl, by trivial⟩
            case measure => simp [intOf]; have := hm5.out; omega
          | false =>
            go_wp2_with fail
            go_roundw
            case rel => exact ⟨t + 1, by omega, rfl, by rw [HO.out]; rfl, by trivial⟩
            case measure => simp [intOf]; have := hm5.out; omega
    · obtain rfl : t = 5 := by omega
      go_wp2_with fail
      go_ret
      exact ⟨rfl, rfl⟩
end Go.Proofs.Ytjoaedkgjnchoac.PLock
