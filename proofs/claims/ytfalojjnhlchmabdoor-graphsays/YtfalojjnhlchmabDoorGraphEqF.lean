/- slices.EqualFunc at rows of rows, with slices.Equal, walked. Conditions: lengths that an int holds. -/
import Derived.Test.YtfalojjnhlchmabDoorGraphEq
import Derived.Test.YtfalojjnhlchmabDoorGraphRows
namespace Go.Proofs.YtfalojjnhlchmabDoor.PGraph
open Go Go.RowKit PPool
set_option maxRecDepth 100000

set_option maxHeartbeats 1000000 in
theorem eqF_any (w : World) (a1 a2 : Option Addr) (c1 c2 : Nat) (l1 l2 : List (List Nat)) (h1 : RowsAt w a1 l1) (h2 : RowsAt w a2 l2) (hl1 : l1.length ≤ 9223372036854775807) (hl : ∀ l ∈ l1, l.length ≤ 9223372036854775807) :
    Calls Tryd.prog 11 #[.slice a1 l1.length c1, .slice a2 l2.length c2, .func (.func 10) #[] #[]] w fun e w' => e = .returned (.bool (decide (l1 = l2))) ∧ Below w.heap.size w w' := by
  obtain ⟨Y, hY⟩ : ∃ Y, Y = decide (l1 = l2) := ⟨_, rfl⟩
  rw [← hY]
  have HY := hid hY
  have KE := hid fun W a1 a2 c1 c2 l1 l2 p1 p2 p3 => eqNats_any W a1 a2 c1 c2 l1 l2 p1 p2 p3
  clear hY
  by_cases hll : l1.length = l2.length
  · have hb : ((l1.length : Int) != (l2.length : Int)) = false := by simp; omega
    have hb2 : (l1.length != l2.length) = false := by simp; omega
    have H1 := hid h1
    have H2 := hid h2
    have HL := hid hll
    have HLL := hid hl
    clear h1 h2 hl hll
    go_enter Tryd.func11, Tryd.ntmps11
    go_wp2_with fail
    go_loopw [17] (fun i wr => ∃ k : Nat, k ≤ l1.length ∧ i = .int .i64 (k : Int) ∧ Hid (l1.take k = l2.take k) ∧ Hid (Below w.heap.size w wr)) (fun i _ => l1.length - (intOf i).toNat)
    case atStart => exact ⟨0, Nat.zero_le _, rfl, by show _ = _; simp, Below.refl _ _⟩
    case round =>
      obtain ⟨k, hk, rfl, ht, hbel⟩ := hrel
      by_cases hlt : k < l1.length
      · have hlt2 : k < l2.length := by have := HL.out; omega
        obtain ⟨x1, hx1⟩ : ∃ t, l1[k]? = some t := ⟨_, List.getElem?_eq_getElem hlt⟩
        obtain ⟨x2, hx2⟩ : ∃ t, l2[k]? = some t := ⟨_, List.getElem?_eq_getElem hlt2⟩
        obtain ⟨b1, o1, p1, q1, rfl, d1, n1⟩ := (H1.out.below hbel.out) k x1 hx1
        obtain ⟨b2, o2, p2, q2, rfl, d2, n2⟩ := (H2.out.below hbel.out) k x2 hx2
        have k0 : (0 : Int) ≤ (k : Int) := by omega
        have k1 : (k : Int) < (l1.length : Int) := by omega
        have k2 : (k : Int) < (l2.length : Int) := by omega
        have HK := hid (KE.out wr p1 p2 q1 q2 x1 x2 n1 n2 (HLL.out x1 (List.mem_of_getElem? hx1)))
        clear n1 n2
        by_cases e : x1 = x2
        · subst e
          have NX := hid (take_next ht.out hx1 hx2)
          rw [decide_eq_true rfl] at HK
          clear hx1 hx2 ht
          go_wp2_with fail
          refine HK.out.mono ?_
          rintro r w3 ⟨rfl, hb3⟩
          have B3 := hid (below_tr hbel.out hb3)
          clear hb3 hbel HK
          go_wp2_with fail
          go_roundw
          case rel => exact ⟨k + 1, by omega, by go_num, NX, B3⟩
          case measure => simp [intOf]; omega
        · rw [decide_eq_false e] at HK
          have HF : Hid (Y = false) := by
            show _ = _
            rw [HY.out, decide_eq_false_iff_not]
            rintro rfl
            rw [hx1] at hx2
            exact e (Option.some.inj hx2)
          clear hx1 hx2 ht HY e
          go_wp2_with fail
          refine HK.out.mono ?_
          rintro r w3 ⟨rfl, hb3⟩
          have B3 := hid (below_tr hbel.out hb3)
          clear hb3 hbel HK
          go_wp2_with fail
          go_ret
          exact ⟨by rw [HF.out]; rfl, B3.out⟩
      · obtain rfl : k = l1.length := by omega
        have j3 : decide ((l1.length : Int) < (l1.length : Int)) = false := by simp
        have HF : Hid (Y = true) := by
          show _ = _
          rw [HY.out, decide_eq_true_iff]
          have := ht.out
          rw [List.take_length, HL.out, List.take_length] at this
          exact this
        clear ht HY
        go_wp2_with fail
        go_ret
        exact ⟨by rw [HF.out]; rfl, hbel.out⟩
  · have hb : ((l1.length : Int) != (l2.length : Int)) = true := by simp; omega
    have HF : Hid (Y = false) := by
      show _ = _
      rw [HY.out, decide_eq_false_iff_not]
      rintro rfl
      exact hll rfl
    clear HY h1 h2 hl hll
    go_enter Tryd.func11, Tryd.ntmps11
    go_wp2_with fail
    go_ret
    exact ⟨by rw [HF.out]; rfl, Below.refl _ _⟩
end Go.Proofs.YtfalojjnhlchmabDoor.PGraph
