/- quirkeep.front, walked. -/
import Derived.Test.YthfpinjegfgeiafWalSt
namespace Go.Proofs.Ythfpinjegfgeiaf
open Go Go.RowKit
set_option maxRecDepth 100000

set_option maxHeartbeats 2000000 in
theorem front_any (w : World) (a1 : Option Addr) (c1 : Nat) (l1 l2 : List ByteArray) (h1 : SlAt w a1 l1) (hl1 : l1.length ≤ 256) (hl2 : l2.length ≤ 256) (v : Value) {base : Nat} (h2 : w.ownsRow base 9 1 v l2.length (l2.map Value.string)) :
    Calls Try.prog 27 #[.slice a1 l1.length c1, v] w fun e w' => e = .returned (.bool (fr l1 l2)) ∧ Below w.heap.size w w' := by
  by_cases hle : l1.length ≤ l2.length
  · have q1 : decide ((l1.length : Int) ≤ (l2.length : Int)) = true := by simp; omega
    have q2 : decide (l1.length ≤ l2.length) = true := by simp; omega
    have hfr : fr l1 l2 = decide (l1 = l2.take l1.length) := by unfold fr; rw [q2, Bool.true_and]
    have htl : (l2.take l1.length).length = l1.length := by rw [List.length_take]; omega
    rw [hfr]
    rcases SlAt.own h2 with ⟨rfl, rfl⟩ | ⟨g, c, rfl, hc, hcm, hs⟩
    · have hl0 : l1 = [] := List.eq_nil_of_length_eq_zero (by simpa using hle)
      subst hl0
      have KE := hid (equal_any w a1 none c1 0 [] [] h1 (fun j t hj => by simp at hj) (by simp) (by simp))
      have e0 : decide (([] : List ByteArray) = List.take ([] : List ByteArray).length []) = true := by simp
      rw [e0]
      rw [decide_eq_true rfl] at KE
      clear h1 h2 hfr htl hle e0
      have el : ([] : List ByteArray).length = 0 := rfl
      rw [el] at KE q1 ⊢
      go_enter Try.func27, Try.ntmps27
      go_wp2_with fail
      refine KE.out.mono ?_
      rintro r w1 ⟨rfl, hb⟩
      have B := hid hb
      clear hb
      go_wp2_with fail
      go_ret
      exact ⟨rfl, B.out⟩
    · have KE := equal_any w a1 (some ⟨g, 0, none⟩) c1 c l1 (l2.take l1.length) h1 (hs.take _) (by omega) (by omega)
      rw [htl] at KE
      have KE' := hid KE
      generalize decide (l1 = l2.take l1.length) = Y at *
      have k1 : (l1.length : Int) ≤ (c : Int) := by omega
      have k0 : (0 : Int) ≤ (l1.length : Int) := by omega
      have k2 : (l1.length : Int) ≤ (l2.length : Int) := by omega
      clear h1 h2 KE hs hfr htl
      go_enter Try.func27, Try.ntmps27
      go_wp2_with fail
      refine KE'.out.mono ?_
      rintro r w1 ⟨rfl, hb⟩
      have B := hid hb
      clear hb
      go_wp2_with fail
      go_ret
      exact ⟨rfl, B.out⟩
  · have q1 : decide ((l1.length : Int) ≤ (l2.length : Int)) = false := by simp; omega
    have q2 : decide (l1.length ≤ l2.length) = false := by simp; omega
    have hfr : fr l1 l2 = false := by unfold fr; rw [q2, Bool.false_and]
    rw [hfr]
    obtain ⟨a2, c2, rfl, _⟩ := SlAt.own' h2
    clear h1 h2 hfr
    go_enter Try.func27, Try.ntmps27
    go_wp2_with fail
    go_ret
    exact ⟨rfl, Below.refl _ _⟩

end Go.Proofs.Ythfpinjegfgeiaf
