/- Go's slices.IndexFunc at edges, walked, over whatever test they are handed. Conditions: lengths that an int holds. -/
import Derived.Test.YtbgcldckgiiedacDoorGraphMem
import Derived.Deep.QuietTactic
import Derived.BigQuiet
namespace Go.Proofs.YtbgcldckgiiedacDoor.PGraph
open Go Go.RowKit PPool
set_option maxRecDepth 100000

/-- The first place that meets the test, or -1. -/
def ixF (P : Gr.Ed → Bool) (X : List Gr.Ed) : Int := if X.findIdx P = X.length then -1 else (X.findIdx P : Int)
theorem ixF_of {P : Gr.Ed → Bool} {X : List Gr.Ed} {k : Nat} {x : Gr.Ed} (hx : X[k]? = some x) (hp : P x = true) (h : ∀ j y, j < k → X[j]? = some y → P y = false) : ixF P X = (k : Int) := by
  obtain ⟨h1, h2⟩ := List.getElem?_eq_some_iff.1 hx
  have e : X.findIdx P = k := by
    rw [List.findIdx_eq h1]
    exact ⟨by rw [h2]; exact hp, fun j hj => h j X[j] hj (List.getElem?_eq_getElem (by omega))⟩
  unfold ixF
  rw [e, if_neg (by omega)]
theorem ixF_none {P : Gr.Ed → Bool} {X : List Gr.Ed} (h : ∀ j y, j < X.length → X[j]? = some y → P y = false) : ixF P X = -1 := by
  unfold ixF
  rw [if_pos]
  rw [List.findIdx_eq_length]
  intro x hx
  obtain ⟨j, hj⟩ := List.getElem?_of_mem hx
  exact h j x (List.getElem?_eq_some_iff.1 hj).1 hj

set_option maxHeartbeats 1000000 in
theorem idxE_any (w : World) (a : Option Addr) (c : Nat) (X : List Gr.Ed) (f : Nat) (caps : Array Value) (P : Gr.Ed → Bool) (hent : ∀ (args : Array Value) (W : World), (callFunc f args).run Tryd.prog W = .ok (.enter f args) W)
    (hP : ∀ W x, x ∈ X → Below w.heap.size w W → Calls Tryd.prog f (#[.agg #[.int .i64 x.f, .int .i64 x.t]] ++ caps) W fun e W' => e = .returned (.bool (P x)) ∧ Below W.heap.size W W') (h : PgAt w a X) (hl : X.length ≤ 9223372036854775807) :
    Calls Tryd.prog 26 #[.slice a X.length c, .func (.func f) #[] caps] w fun e w' => e = .returned (.int .i64 (ixF P X)) ∧ Below w.heap.size w w' := by
  have H := hid h
  obtain ⟨Y, hY⟩ : ∃ Y, Y = ixF P X := ⟨_, rfl⟩
  rw [← hY]
  have HY := hid hY
  have KF := hid hP
  clear h hY hP
  go_enter Tryd.func26, Tryd.ntmps26
  go_wp2_with fail
  go_loopw [8] (fun i wr => ∃ k : Nat, k ≤ X.length ∧ i = .int .i64 (k : Int) ∧ Hid (∀ j x, j < k → X[j]? = some x → P x = false) ∧ Hid (Below w.heap.size w wr)) (fun i _ => X.length - (intOf i).toNat)
  case atStart => exact ⟨0, Nat.zero_le _, rfl, fun j x hj => by omega, Below.refl _ _⟩
  case round =>
    obtain ⟨k, hk, rfl, hO, hb⟩ := hrel
    by_cases hlt : k < X.length
    · obtain ⟨x, hx⟩ : ∃ x, X[k]? = some x := ⟨_, List.getElem?_eq_getElem hlt⟩
      obtain ⟨b, o, rfl, d1, d2⟩ := (H.out.below hb.out) k x hx
      have k0 : (0 : Int) ≤ (k : Int) := by omega
      have k1 : (k : Int) < (X.length : Int) := by omega
      have KX := hid (KF.out wr x (List.mem_of_getElem? hx) hb.out)
      cases hp : P x with
      | true =>
        have HK := hid (HY.out.trans (ixF_of hx hp hO.out))
        rw [hp] at KX
        clear hO hx HY hp KF
        obtain ⟨xf, xt⟩ := x
        simp only at d1 d2 KX
        go_wp2_with fail
        refine KX.out.mono ?_
        rintro r w3 ⟨rfl, hb3⟩
        have B3 := hid (below_tr hb.out hb3)
        clear hb3
        go_wp2_with fail
        go_ret
        exact ⟨by rw [HK.out]; rfl, B3.out⟩
      | false =>
        have NO : Hid (∀ j x, j < k + 1 → X[j]? = some x → P x = false) := fun j y hj hy => by
          by_cases e : j = k
          · subst e
            rw [hx] at hy
            cases hy; exact hp
          · exact hO.out j y (by omega) hy
        rw [hp] at KX
        clear hO hx hp
        obtain ⟨xf, xt⟩ := x
        simp only at d1 d2 KX
        go_wp2_with fail
        refine KX.out.mono ?_
        rintro r w3 ⟨rfl, hb3⟩
        have B3 := hid (below_tr hb.out hb3)
        clear hb3
        go_wp2_with fail
        go_roundw
        case rel => exact ⟨k + 1, by omega, by go_num, NO, B3⟩
        case measure => simp [intOf]; omega
    · obtain rfl : k = X.length := by omega
      have j3 : decide ((X.length : Int) < (X.length : Int)) = false := by simp
      have HK := hid (HY.out.trans (ixF_none hO.out))
      clear hO HY
      go_wp2_with fail
      go_ret
      exact ⟨by rw [HK.out]; rfl, hb.out⟩

theorem ixF_any (P : Gr.Ed → Bool) (X : List Gr.Ed) : decide ((0 : Int) ≤ ixF P X) = X.any P := by
  unfold ixF
  by_cases h : X.findIdx P = X.length
  · rw [if_pos h, decide_eq_false (by omega)]
    symm
    rw [Bool.eq_false_iff]
    intro ha
    obtain ⟨x, hx, hp⟩ := List.any_eq_true.1 ha
    have := (List.findIdx_eq_length.1 h) x hx
    rw [hp] at this
    cases this
  · rw [if_neg h, decide_eq_true (by omega)]
    have hlt : X.findIdx P < X.length := by have := List.findIdx_le_length (p := P) (xs := X); omega
    exact (List.any_eq_true.2 ⟨_, List.getElem_mem hlt, List.findIdx_getElem (w := hlt)⟩).symm

end Go.Proofs.YtbgcldckgiiedacDoor.PGraph
