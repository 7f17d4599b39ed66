/- slices.IndexFunc at slots with LeafSays' own function, walked: the first place that is free, or -1. Conditions: lengths that an int holds. -/
import Derived.Test.YtiaddijibaclkaaLeafCopy
namespace Go.Proofs.Ytiaddijibaclkaa.PLeaf
open Go Go.RowKit
set_option maxRecDepth 100000

theorem fn_any (w : World) (u : Bool) (t : ByteArray) : Calls Try.prog 59 #[.agg #[.bool u, .string t]] w fun e w' => e = .returned (.bool (!u)) ∧ Below w.heap.size w w' := by
  go_enter Try.func59, Try.ntmps59
  go_wp2_with fail
  go_ret
  exact ⟨rfl, bx _ _⟩

set_option maxHeartbeats 2000000 in
theorem index_any (w : World) (a : Option Addr) (c : Nat) (X : List Lf.Sl) (h : PgAt w a X) (hn : X.length ≤ 9223372036854775807) :
    Calls Try.prog 58 #[.slice a X.length c, .func (.func 59) #[] #[]] w fun e w' => e = .returned (.int .i64 (if Lf.first X = X.length then -1 else (Lf.first X : Int))) ∧ Below w.heap.size w w' := by
  have H := hid h
  obtain ⟨Y, hY⟩ : ∃ Y : Int, Y = if Lf.first X = X.length then -1 else (Lf.first X : Int) := ⟨_, rfl⟩
  rw [← hY]
  have HY := hid hY
  have KF := hid fn_any
  clear h hY
  go_enter Try.func58, Try.ntmps58
  go_wp2_with fail
  go_loopw [8] (fun i wr => ∃ k : Nat, k ≤ X.length ∧ i = .int .i64 (k : Int) ∧ Hid (∀ j x, j < k → X[j]? = some x → x.used = true) ∧ Hid (Below w.heap.size w wr)) (fun i _ => X.length - (intOf i).toNat)
  case atStart => exact ⟨0, Nat.zero_le _, rfl, fun j x hj => by omega, Below.refl _ _⟩
  case round =>
    obtain ⟨k, hk, rfl, hO, hb⟩ := hrel
    by_cases hlt : k < X.length
    · obtain ⟨x, hx⟩ : ∃ x, X[k]? = some x := ⟨_, List.getElem?_eq_getElem hlt⟩
      obtain ⟨b, o, rfl, d1, d2⟩ := (H.out.below hb.out) k x hx
      have k0 : (0 : Int) ≤ (k : Int) := by omega
      have k1 : (k : Int) < (X.length : Int) := by omega
      have HX := hid hx
      clear hx
      obtain ⟨u, t⟩ := x
      simp only at d1 d2
      cases u with
      | true =>
        have NO : Hid (∀ j x, j < k + 1 → X[j]? = some x → x.used = true) := fun j x hj hx => by
          by_cases e : j = k
          · subst e
            rw [HX.out] at hx
            cases hx; rfl
          · exact hO.out j x (by omega) hx
        clear hO HX
        go_wp2_with fail
        refine (KF.out _ _ _).mono ?_
        rintro r w3 ⟨rfl, hb3⟩
        have B3 := hid (below_tr hb.out hb3)
        clear hb3
        go_wp2_with fail
        go_roundw
        case rel => exact ⟨k + 1, by omega, by go_num, NO, B3⟩
        case measure => simp [intOf]; omega
      | false =>
        have HK : Hid (Y = (k : Int)) := by
          show _ = _
          have e := Lf.first_of hk hO.out (fun x hx => by rw [HX.out] at hx; cases hx; rfl)
          rw [HY.out, e, if_neg (by omega)]
        clear hO HX HY
        go_wp2_with fail
        refine (KF.out _ _ _).mono ?_
        rintro r w3 ⟨rfl, hb3⟩
        have B3 := hid (below_tr hb.out hb3)
        clear hb3
        go_wp2_with fail
        go_ret
        exact ⟨by rw [HK.out]; rfl, B3.out⟩
    · obtain rfl : k = X.length := by omega
      have j3 : decide ((X.length : Int) < (X.length : Int)) = false := by simp
      have HK : Hid (Y = -1) := by
        show _ = _
        have e := Lf.first_of hk hO.out (fun x hx => by simp at hx)
        rw [HY.out, e, if_pos rfl]
      clear hO HY
      go_wp2_with fail
      go_ret
      exact ⟨by rw [HK.out]; rfl, hb.out⟩

end Go.Proofs.Ytiaddijibaclkaa.PLeaf
