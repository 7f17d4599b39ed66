/- quirref.GraphErr, walked: it answers what the plain function says, and nothing that was there has turned. Conditions: how many edges there are. -/
import Derived.Test.YtbgcldckgiiedacDoorGraphBits
namespace Go.Proofs.YtbgcldckgiiedacDoor.PGraph
open Go Go.RowKit PPool
set_option maxRecDepth 100000

set_option maxHeartbeats 1000000 in
theorem err_any (w : World) (n : Int) (a : Option Addr) (c : Nat) (X : List Gr.Ed) (h : PgAt w a X) (hl : X.length ≤ 9223372036854775807) :
    Calls Tryd.prog 4 #[.int .i64 n, .slice a X.length c] w fun e w' => e = .returned (.int .i64 (Gr.check n X)) ∧ Below w.heap.size w w' := by
  obtain ⟨Y, hY⟩ : ∃ Y, Y = Gr.check n X := ⟨_, rfl⟩
  rw [← hY]
  by_cases h1 : n < 0
  · have HY : Hid (Y = 1) := hY.trans (Gr.check_few (.inl h1))
    clear hY h
    go_enter Tryd.func4, Tryd.ntmps4
    go_wp2_with fail
    go_ret
    exact ⟨by rw [HY.out]; rfl, Below.refl _ _⟩
  · by_cases h2 : 60 < n
    · have HY : Hid (Y = 1) := hY.trans (Gr.check_few (.inr h2))
      clear hY h
      go_enter Tryd.func4, Tryd.ntmps4
      go_wp2_with fail
      go_ret
      exact ⟨by rw [HY.out]; rfl, Below.refl _ _⟩
    · by_cases h3 : 2000 < X.length
      · have HY : Hid (Y = 2) := hY.trans (Gr.check_many (by omega) h3)
        have h3' : (2000 : Int) < (X.length : Int) := by omega
        clear hY h
        go_enter Tryd.func4, Tryd.ntmps4
        go_wp2_with fail
        go_ret
        exact ⟨by rw [HY.out]; rfl, Below.refl _ _⟩
      · have h3' : ¬ (2000 : Int) < (X.length : Int) := by omega
        have HY := hid hY
        have HN : Hid (¬ (n < 0 ∨ 60 < n)) := (by omega : ¬ (n < 0 ∨ 60 < n))
        have H3 := hid h3
        have H := hid h
        clear hY h
        go_enter Tryd.func4, Tryd.ntmps4
        go_wp2_with fail
        go_loopw [18] (fun i wr => ∃ k : Nat, k ≤ X.length ∧ i = .int .i64 (k : Int) ∧ Hid (∀ y ∈ X.take k, Gr.okE n y = true) ∧ Hid (Below w.heap.size w wr)) (fun i _ => X.length - (intOf i).toNat)
        case atStart => exact ⟨0, Nat.zero_le _, rfl, fun y hy => by simp at hy, Below.refl _ _⟩
        case round =>
          obtain ⟨k, hk, rfl, hC, hb⟩ := hrel
          by_cases hlt : k < X.length
          · obtain ⟨x, hx⟩ : ∃ x, X[k]? = some x := ⟨_, List.getElem?_eq_getElem hlt⟩
            obtain ⟨b, o, rfl, d1, d2⟩ := (H.out.below hb.out) k x hx
            have k0 : (0 : Int) ≤ (k : Int) := by omega
            have k1 : (k : Int) < (X.length : Int) := by omega
            have HX := hid hx
            have HM := hid (List.mem_of_getElem? hx)
            clear hx
            obtain ⟨xf, xt⟩ := x
            simp only at d1 d2
            have hB : Hid (Below w.heap.size w (wr.alloc (.cells #[.int .i64 xf, .int .i64 xt] 34))) := below_tr hb.out (bx _ _)
            have e0 := (new2 wr (.int .i64 xf) (.int .i64 xt) 34).1
            have e1 := (new2 wr (.int .i64 xf) (.int .i64 xt) 34).2
            have HB4 : Hid (Gr.okE n ⟨xf, xt⟩ = false → Y = 4) := fun hb => HY.out.trans (Gr.check_bad HN.out H3.out HM.out hb)
            have HGO : Hid (Gr.okE n ⟨xf, xt⟩ = true → ∀ y ∈ X.take (k + 1), Gr.okE n y = true) := fun ho => Gr.ok_take hC.out HX.out ho
            clear HY HX HM hC hb
            go_wp2_with fail
            all_goals (try (
              go_ret
              refine ⟨?_, hB.out⟩
              rw [HB4.out (by
                rw [Bool.eq_false_iff]
                intro hh
                simp only [Gr.okE, Gr.node, Bool.and_eq_true, decide_eq_true_eq] at hh
                omega)]
              rfl))
            all_goals go_roundw
            all_goals (try (case rel =>
              refine ⟨k + 1, by omega, by go_num, hid (HGO.out ?_), hB⟩
              simp only [Gr.okE, Gr.node, Bool.and_eq_true, decide_eq_true_eq]
              omega))
            all_goals (try (case measure => simp [intOf]; omega))
          · obtain rfl : k = X.length := by omega
            have j3 : decide ((X.length : Int) < (X.length : Int)) = false := by simp
            have HF : Hid (Y = 0) := HY.out.trans (Gr.check_good HN.out H3.out (by have := hC.out; rwa [List.take_length] at this))
            clear hC HY
            go_wp2_with fail
            go_ret
            exact ⟨by rw [HF.out]; rfl, hb.out⟩
end Go.Proofs.YtbgcldckgiiedacDoor.PGraph
