/- graph.Check, walked: it answers what the plain function says, and nothing that was there has turned. Conditions: how many edges there are. -/
import Derived.Test.YtbgcldckgiiedajDoorGraphBits
namespace Go.Proofs.YtbgcldckgiiedajDoor.PGraph
open Go Go.RowKit PPool
set_option maxRecDepth 100000

set_option maxHeartbeats 1000000 in
theorem check_any (w : World) (n : Int) (a : Option Addr) (c : Nat) (X : List Gr.Ed) (h : PgAt w a X) (hl : X.length ≤ 9223372036854775807) :
    Calls Tryd.prog 11 #[.int .i64 n, .slice a X.length c] w fun e w' => e = .returned (.int .i64 (Gr.check n X)) ∧ Below w.heap.size w w' := by
  obtain ⟨Y, hY⟩ : ∃ Y, Y = Gr.check n X := ⟨_, rfl⟩
  rw [← hY]
  by_cases h1 : n < 0
  · have HY : Hid (Y = 1) := hY.trans (Gr.check_few (.inl h1))
    clear hY h
    go_enter Tryd.func11, Tryd.ntmps11
    go_wp2_with fail
    go_ret
    exact ⟨by rw [HY.out]; rfl, Below.refl _ _⟩
  · by_cases h2 : 60 < n
    · have HY : Hid (Y = 1) := hY.trans (Gr.check_few (.inr h2))
      clear hY h
      go_enter Tryd.func11, Tryd.ntmps11
      go_wp2_with fail
      go_ret
      exact ⟨by rw [HY.out]; rfl, Below.refl _ _⟩
    · by_cases h3 : 2000 < X.length
      · have HY : Hid (Y = 2) := hY.trans (Gr.check_many (by omega) h3)
        have h3' : (2000 : Int) < (X.length : Int) := by omega
        clear hY h
        go_enter Tryd.func11, Tryd.ntmps11
        go_wp2_with fail
        go_ret
        exact ⟨by rw [HY.out]; rfl, Below.refl _ _⟩
      · have h3' : ¬ (2000 : Int) < (X.length : Int) := by omega
        have HY := hid hY
        have HN : Hid (¬ (n < 0 ∨ 60 < n)) := (by omega : ¬ (n < 0 ∨ 60 < n))
        have H3 := hid h3
        have H := hid h
        have KN := hid fun W k => isNode_any W n k
        clear hY h
        go_enter Tryd.func11, Tryd.ntmps11
        go_wp2_with fail
        go_loopw [18] (fun i wr => ∃ k : Nat, k ≤ X.length ∧ i = .int .i64 (k : Int) ∧ Hid (∀ y ∈ X.take k, Gr.okE n y = true) ∧ Hid (Below w.heap.size w wr)) (fun i _ => X.length - (intOf i).toNat)
        case atStart => exact ⟨0, Nat.zero_le _, rfl, fun y hy => by simp at hy, Below.refl _ _⟩
        case round =>
          obtain ⟨k, hk, rfl, hC, hb⟩ := hrel
          by_cases hlt : k < X.length
          · obtain ⟨x, hx⟩ : ∃ x, X[k]? = some x := ⟨_, List.getElem?_eq_getElem hlt⟩
            obtain ⟨b, o, rfl, d1, d2⟩ := (H.out.below hb.out) k x hx
            have k0 : (0 : Int) ≤ (k : Int) := by omega
            have k1 : (k : Int) < (X.length : Int) := by omega
            have HX := hid hx
            have HM := hid (List.mem_of_getElem? hx)
            clear hx
            obtain ⟨xf, xt⟩ := x
            simp only at d1 d2
            have hB : Hid (Below w.heap.size w (wr.alloc (.cells #[.int .i64 xf, .int .i64 xt] 28))) := below_tr hb.out (bx _ _)
            go_wp2_with fail
            refine (KN.out _ xf).mono ?_
            rintro r w3 ⟨rfl, hb3⟩
            obtain ⟨e0, e1⟩ := box2 hb3
            have B3 : Hid (Below w.heap.size w w3) := below_tr hB.out hb3
            clear hb3 hB d1 d2 hb
            cases hW : Gr.node n xf with
            | false =>
              have HF : Hid (Y = 4) := HY.out.trans (Gr.check_bad HN.out H3.out HM.out (by unfold Gr.okE; rw [hW]; rfl))
              clear HY HX hW
              go_wp2_with fail
              go_ret
              exact ⟨by rw [HF.out]; rfl, B3.out⟩
            | true =>
              go_wp2_with fail
              refine (KN.out _ xt).mono ?_
              rintro r w4 ⟨rfl, hb4⟩
              have B4 : Hid (Below w.heap.size w w4) := below_tr B3.out hb4
              clear hb4 B3 e0 e1
              cases hW2 : Gr.node n xt with
              | false =>
                have HF : Hid (Y = 4) := HY.out.trans (Gr.check_bad HN.out H3.out HM.out (by unfold Gr.okE; rw [hW2, Bool.and_false]))
                clear HY HX hW hW2
                go_wp2_with fail
                go_ret
                exact ⟨by rw [HF.out]; rfl, B4.out⟩
              | true =>
                have NC : Hid (∀ y ∈ X.take (k + 1), Gr.okE n y = true) := Gr.ok_take hC.out HX.out (by unfold Gr.okE; rw [hW, hW2]; rfl)
                clear hW hW2
                go_wp2_with fail
                go_roundw
                case rel => exact ⟨k + 1, by omega, by go_num, NC, B4⟩
                case measure => simp [intOf]; omega
          · obtain rfl : k = X.length := by omega
            have j3 : decide ((X.length : Int) < (X.length : Int)) = false := by simp
            have HF : Hid (Y = 0) := HY.out.trans (Gr.check_good HN.out H3.out (by have := hC.out; rwa [List.take_length] at this))
            clear hC HY
            go_wp2_with fail
            go_ret
            exact ⟨by rw [HF.out]; rfl, hb.out⟩
end Go.Proofs.YtbgcldckgiiedajDoor.PGraph
