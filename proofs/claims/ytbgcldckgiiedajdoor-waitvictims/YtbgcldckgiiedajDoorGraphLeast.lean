/- graph.leastNext, walked: the least node that can stand next; nothing that was there has turned. Conditions: no more than 60 nodes. -/
import Derived.Test.YtbgcldckgiiedajDoorGraphSets
namespace Go.Proofs.YtbgcldckgiiedajDoor.PGraph
open Go Go.RowKit PPool
set_option maxRecDepth 100000

set_option maxHeartbeats 2000000 in
theorem least_any (w : World) (n : Nat) (a : Option Addr) (c : Nat) (X : List Gr.Ed) (l : List Nat) (h : SetsAt w a (Gr.aheads X n)) (hn : n ≤ 60) :
    Calls Tryd.prog 21 #[.slice a n c, .int .u64 ((Gr.mask (fun i => l.contains i) n : Nat) : Int)] w fun e w' => e = .returned (.int .i64 (Gr.numOf (Gr.next X n l))) ∧ Below w.heap.size w w' := by
  have H := hid h
  have KH := hid fun W s k => has_any W s k
  have hPl := Gr.mask_lt64 (fun i => l.contains i) hn
  obtain ⟨P, hP⟩ : ∃ P, P = Gr.mask (fun i => l.contains i) n := ⟨_, rfl⟩
  have HP := hid hP
  rw [← hP] at hPl ⊢
  obtain ⟨Y, hY⟩ : ∃ Y, Y = Gr.numOf (Gr.next X n l) := ⟨_, rfl⟩
  have HY := hid hY
  rw [← hY]
  clear h hP hY
  go_enter Tryd.func21, Tryd.ntmps21
  go_wp2_with fail
  go_loopw [8] (fun i wr => ∃ k : Nat, k ≤ n ∧ i = .int .i64 (k : Int) ∧ Hid (∀ j, j < k → Gr.ready X n l j = false) ∧ Hid (Below w.heap.size w wr)) (fun i _ => n - (intOf i).toNat)
  case atStart => exact ⟨0, Nat.zero_le _, rfl, fun j hj => absurd hj (Nat.not_lt_zero _), Below.refl _ _⟩
  case round =>
    obtain ⟨k, hk, rfl, hC, hb⟩ := hrel
    by_cases hlt : k < n
    · have k0 : (0 : Int) ≤ (k : Int) := by omega
      have k1 : (k : Int) < (n : Int) := by omega
      have HI := hid (KH.out wr P k hPl (by omega))
      have hre := Gr.ready_bits X l hn hlt
      rw [← HP.out] at hre
      have hat : (Gr.aheads X n)[k]? = some (Gr.mask (fun i => Gr.E X i k) n) := Gr.row_at _ hlt
      obtain ⟨v, hv⟩ : ∃ v, v = Gr.mask (fun i => Gr.E X i k) n := ⟨_, rfl⟩
      have hvl := Gr.mask_lt64 (fun i => Gr.E X i k) hn
      rw [← hv] at hat hre hvl
      obtain ⟨b, o, rfl, d1⟩ := (H.out.below hb.out) k v hat
      have hand : bits .andNot .u64 (v : Int) (P : Int) = ((v &&& (18446744073709551615 - P) : Nat) : Int) := u64_andNot_nat v P hvl hPl
      obtain ⟨q, hq⟩ : ∃ q, q = v &&& (18446744073709551615 - P) := ⟨_, rfl⟩
      rw [← hq] at hand hre
      have HRE := hid hre
      clear hre hat hv hvl hq
      cases hb1 : P.testBit k with
      | true =>
        rw [hb1] at HI HRE
        have HN : Hid (∀ j, j < k + 1 → Gr.ready X n l j = false) := fun j hj => by
          rcases Nat.lt_or_ge j k with h1 | h1
          · exact hC.out j h1
          · obtain rfl : j = k := by omega
            rw [HRE.out]; rfl
        clear HRE hb1
        go_wp2_with fail
        refine (HI.out).mono ?_
        rintro r w1 ⟨rfl, hb2⟩
        have B2 : Hid (Below w.heap.size w w1) := below_tr hb.out hb2
        clear hb2
        go_wp2_with fail
        go_roundw
        case rel => exact ⟨k + 1, by omega, by go_num, HN, B2⟩
        case measure => simp [intOf]; omega
      | false =>
        rw [hb1] at HI HRE
        clear hb1
        by_cases hq0 : q = 0
        · have j1 : ((q : Int) == 0) = true := by rw [hq0]; rfl
          have HF : Hid (Y = (k : Int)) := by
            show _ = _
            rw [HY.out, Gr.next_is hC.out hlt (by rw [HRE.out, decide_eq_true hq0]; rfl)]
            rfl
          clear HRE HY hq0
          go_wp2_with fail
          refine (HI.out).mono ?_
          rintro r w1 ⟨rfl, hb2⟩
          have d2 := keep1 hb2 d1
          go_wp2_with fail
          go_ret
          exact ⟨by rw [HF.out]; rfl, below_tr hb.out hb2⟩
        · have j1 : ((q : Int) == 0) = false := by simp; omega
          have HN : Hid (∀ j, j < k + 1 → Gr.ready X n l j = false) := fun j hj => by
            rcases Nat.lt_or_ge j k with h1 | h1
            · exact hC.out j h1
            · obtain rfl : j = k := by omega
              rw [HRE.out, decide_eq_false hq0]; rfl
          clear HRE hq0
          go_wp2_with fail
          refine (HI.out).mono ?_
          rintro r w1 ⟨rfl, hb2⟩
          have d2 := keep1 hb2 d1
          have B2 : Hid (Below w.heap.size w w1) := below_tr hb.out hb2
          clear hb2
          go_wp2_with fail
          go_roundw
          case rel => exact ⟨k + 1, by omega, by go_num, HN, B2⟩
          case measure => simp [intOf]; omega
    · obtain rfl : k = n := by omega
      have j3 : decide ((k : Int) < (k : Int)) = false := by simp
      have HF : Hid (Y = -1) := by
        show _ = _
        rw [HY.out, Gr.next_no hC.out]
        rfl
      clear hC HY
      go_wp2_with fail
      go_ret
      exact ⟨by rw [HF.out]; rfl, hb.out⟩
end Go.Proofs.YtbgcldckgiiedajDoor.PGraph
