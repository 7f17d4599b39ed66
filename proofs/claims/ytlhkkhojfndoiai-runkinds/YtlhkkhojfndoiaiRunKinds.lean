/- quirkeep.RunKinds, walked: it answers true, and nothing that was there has turned. Conditions: how many operations there are, and that the capacity is no less. -/
import Derived.Test.YtlhkkhojfndoiaiRunKnds
import Derived.Test.YtlhkkhojfndoiaiRunOp
namespace Go.Proofs.Ytlhkkhojfndoiai.PRun
open Go Go.RowKit PPool PGraph
set_option maxRecDepth 100000

def kX : List Rn.Op := [⟨0, 2, 1⟩, ⟨1, 1, 1⟩, ⟨0, 3, 0⟩, ⟨1, 3, 0⟩]
theorem kX_kinds : kndR kX = true ∧ kndC kX = false ∧ kndS kX = false ∧ Rn.check kX = 0 := by decide +kernel
set_option maxHeartbeats 4000000 in
theorem kinds_walk (w : World) (a : Option Addr) (c : Nat) (X : List Rn.Op) (h : OpAt w a X) (hl : X.length ≤ 9223372036854775807) (hcap : X.length ≤ c) :
    Calls Try.prog 4 #[.slice a X.length c] w fun e w' => e = .returned (.bool true) ∧ Below w.heap.size w w' := by
  have H := hid h
  have KO := hid fun W x k i => op_any W x k i
  have K1 := hid fun W b h => kinds_any W (some ⟨b, 0, none⟩) 4 kX h (by decide) (by decide)
  rw [kX_kinds.1, kX_kinds.2.1, kX_kinds.2.2.1, kX_kinds.2.2.2] at K1
  have K2 := hid fun W h => kinds_any W a c X h hl hcap
  clear h
  go_enter Try.func4, Try.ntmps4
  go_wp2_with fail
  refine (KO.out w 0 2 1).mono ?_
  rintro r w1 ⟨rfl, hb1⟩
  have B1 := hid hb1
  clear hb1
  go_wp2_with fail
  refine (KO.out w1 1 1 1).mono ?_
  rintro r w2 ⟨rfl, hb2⟩
  have B2 : Hid (Below w.heap.size w w2) := below_tr B1.out hb2
  clear hb2 B1
  go_wp2_with fail
  refine (KO.out w2 0 3 0).mono ?_
  rintro r w3 ⟨rfl, hb3⟩
  have B3 : Hid (Below w.heap.size w w3) := below_tr B2.out hb3
  clear hb3 B2
  go_wp2_with fail
  refine (KO.out w3 1 3 0).mono ?_
  rintro r w4 ⟨rfl, hb4⟩
  have B4 : Hid (Below w.heap.size w w4) := below_tr B3.out hb4
  clear hb4 B3 KO
  go_wp2_with fail
  refine (K1.out _ _ (row_at w4 kX _ _ rfl)).mono ?_
  rintro r w5 ⟨rfl, hb5⟩
  have B5 : Hid (Below w.heap.size w w5) := below_tr B4.out (below_tr (bx _ _) hb5)
  clear hb5 B4 K1
  go_wp2_with fail
  refine (K2.out _ (H.out.below (below_tr B5.out (bx _ _)))).mono ?_
  rintro r w6 ⟨rfl, hb6⟩
  have B6 : Hid (Below w.heap.size w w6) := below_tr B5.out (below_tr (bx _ _) hb6)
  have hb := fun o => hid (below_tr B6.out (bx w6 o))
  clear hb6 B5 K2
  by_cases hv : Rn.check X = 0
  · have hc : Hid (kndS X = true → kndC X = true) := by
      intro h
      unfold kndS at h; unfold kndC
      rw [if_pos hv] at h ⊢
      exact Rn.str_cas h
    have hr : Hid (kndC X = true → kndR X = true) := by
      intro h
      unfold kndC at h; unfold kndR
      rw [if_pos hv] at h ⊢
      exact Rn.cas_rec hv h
    rw [hv]
    generalize kndR X = r at *
    generalize kndC X = c' at *
    generalize kndS X = s at *
    clear hv B6
    cases s with
    | false =>
      cases c' with
      | false =>
        go_wp2_with fail
        go_ret
        exact ⟨rfl, (hb _).out⟩
      | true =>
        obtain rfl : r = true := hr.out rfl
        go_wp2_with fail
        go_ret
        exact ⟨rfl, (hb _).out⟩
    | true =>
      obtain rfl : c' = true := hc.out rfl
      obtain rfl : r = true := hr.out rfl
      go_wp2_with fail
      go_ret
      exact ⟨rfl, (hb _).out⟩
  · have e1 : kndR X = false := by unfold kndR; rw [if_neg hv]
    have e2 : kndC X = false := by unfold kndC; rw [if_neg hv]
    have e3 : kndS X = false := by unfold kndS; rw [if_neg hv]
    rw [e1, e2, e3]
    generalize Rn.check X = v at *
    have hv0 : (v != 0) = true := by simpa using hv
    clear hv e1 e2 e3 B6
    go_wp2_with fail
    go_ret
    exact ⟨rfl, (hb _).out⟩
end Go.Proofs.Ytlhkkhojfndoiai.PRun
