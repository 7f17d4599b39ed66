/- wait.greatestOnLoop, walked: the greatest node that comes to itself, or -1; nothing that was there has turned. Conditions: a right graph; the library's table is as its initialiser lays it. -/
import Derived.Test.YtbgcldckgiiedacDoorWaitLoop
import Derived.Test.YtbgcldckgiiedacDoorWaitMax
import Derived.Test.YtbgcldckgiiedacDoorWaitDed
import Derived.Test.YtbgcldckgiiedacDoorGraphPrt
namespace Go.Proofs.YtbgcldckgiiedacDoor.PWait
open Go Go.RowKit PPool PGraph
set_option maxRecDepth 100000

set_option maxHeartbeats 4000000 in
theorem best_any (w : World) (n : Nat) (a : Option Addr) (c : Nat) (X : List Gr.Ed) (h : PgAt w a X) (hR : Right n X) (hT : Tab w) :
    Calls Tryd.prog 13 #[.int .i64 (n : Int), .slice a X.length c] w fun e w' => e = .returned (.int .i64 (Wa.worst X n)) ∧ Below w.heap.size w w' := by
  have H := hid h
  have HIn := right_in hR
  have h0 : Gr.check n X = 0 := Wa.check_in hR.1 hR.2.1 HIn
  have hX2 := hR.2.1
  have hn := hR.1
  have KP := hid (parts_any w n a c X h (by omega) hT)
  have e2 : Gr.partList (n : Int) X = Gr.parts X n := by unfold Gr.partList; rw [if_pos h0, Int.toNat_natCast]
  rw [h0, e2] at KP
  have hLn := Gr.parts_length X n
  have HNE := hid (Wa.parts_ne (X := X) (n := n))
  have HLL : Hid (∀ l ∈ Gr.parts X n, l.length ≤ 60) := fun l hl => by
    obtain ⟨i, hi, e⟩ := List.mem_iff_getElem.1 hl
    obtain ⟨r, hr, _, rfl, _⟩ := Gr.parts_at (X := X) (n := n) (i := i) (l := l) (by rw [List.getElem?_eq_getElem hi, e])
    have := Gr.filter_len (Gr.eqv X n r) n
    unfold Gr.cls
    omega
  have HBW := hid (Wa.best_worst HIn)
  generalize Gr.parts X n = L at *
  have KH := hid fun W a0 c0 l h0 hne hll hp => hasLoop_any W a0 c0 l a c X h0 hne hll hp (by omega)
  have KM := hid fun W a0 c0 l h0 hll hne => max_any W a0 c0 l h0 hll hne
  have HT := hid hT
  generalize Wa.worst X n = Z at *
  clear h hR hT h0 e2 HIn
  go_enter Tryd.func13, Tryd.ntmps13
  go_wp2_with fail
  refine (KP.out).mono ?_
  rintro r w1 ⟨v1, rfl, ho1, hb1⟩
  obtain ⟨a1, c1, rfl, hp1⟩ := ho1.at_
  have P1 := hid hp1
  have B1 := hid hb1
  clear hb1 ho1 hp1 KP
  go_wp2_with fail
  go_loopw [18, 7] (fun i g wr => ∃ (k : Nat) (z : Int), k ≤ L.length ∧ i = .int .i64 (k : Int) ∧ g = .int .i64 z ∧ Hid (z = Wa.bestTo X L k) ∧ Hid (Below w1.heap.size w1 wr)) (fun i _ _ => L.length - (intOf i).toNat)
  case atStart => exact ⟨0, -1, Nat.zero_le _, rfl, rfl, by show _ = _; rfl, Below.refl _ _⟩
  case round =>
    obtain ⟨k, z, hk, rfl, rfl, hz, hb⟩ := hrel
    by_cases hlt : k < L.length
    · obtain ⟨l, hl⟩ : ∃ l, L[k]? = some l := ⟨_, List.getElem?_eq_getElem hlt⟩
      obtain ⟨b3, o3, a4, c4, rfl, d3', p4⟩ := P1.out k l hl
      have d3 := keep1 hb.out d3'
      have k0 : (0 : Int) ≤ (k : Int) := by omega
      have k1 : (k : Int) < (L.length : Int) := by omega
      have hm := List.mem_of_getElem? hl
      have hne := HNE.out l hm
      have hll := HLL.out l hm
      have HK := hid (KH.out wr a4 c4 l (p4.below hb.out) hne (by omega) ((H.out.below B1.out).below hb.out))
      have KM2 := hid fun W hp => KM.out W a4 c4 l hp (by omega) hne
      have HNX := hid (Wa.bestTo_next (X := X) hl)
      have P4 := hid p4
      cases hlp : Wa.loopP X l with
      | false =>
        rw [hlp] at HK HNX
        have HZ : Hid (z = Wa.bestTo X L (k + 1)) := by show _ = _; rw [HNX.out, if_neg (by simp)]; exact hz.out
        clear hl d3' p4 hm hne hz HNX hlp
        go_wp2_with fail
        refine (HK.out).mono ?_
        rintro r w2 ⟨rfl, hb2⟩
        have B2 := hid (below_tr hb.out hb2)
        clear hb2 hb
        go_wp2_with fail
        go_roundw
        case rel => exact ⟨k + 1, z, by omega, by go_num, rfl, HZ, B2⟩
        case measure => simp [intOf]; omega
      | true =>
        rw [hlp] at HK HNX
        have HZ : Hid (max z (Wa.maxN l : Int) = Wa.bestTo X L (k + 1)) := by show _ = _; rw [HNX.out, if_pos rfl, hz.out]
        generalize Wa.maxN l = m at *
        clear hl d3' p4 hm hne hz HNX hlp
        go_wp2_with fail
        refine (HK.out).mono ?_
        rintro r w2 ⟨rfl, hb2⟩
        have B2 := hid (below_tr hb.out hb2)
        clear hb2 hb HK
        go_wp2_with fail
        refine (KM2.out _ (P4.out.below B2.out)).mono ?_
        rintro r w3 ⟨rfl, hb3⟩
        have B3 := hid (below_tr B2.out hb3)
        clear hb3 B2 KM2
        go_wp2_with fail
        have e3 : Value.int IntKind.i64 (if z < (m : Int) then (m : Int) else z) = .int .i64 (max z (m : Int)) := by
          congr 1
          split <;> omega
        go_roundw
        case rel => exact ⟨k + 1, max z m, by omega, by go_num, e3, HZ, B3⟩
        case measure => simp [intOf]; omega
    · obtain rfl : k = L.length := by omega
      have j3 : decide ((L.length : Int) < (L.length : Int)) = false := by simp
      have e : Hid (z = Z) := by show _ = _; rw [hz.out]; exact HBW.out
      clear hz
      go_wp2_with fail
      go_ret
      exact ⟨by rw [← e.out]; rfl, below_tr B1.out hb.out⟩
end Go.Proofs.YtbgcldckgiiedacDoor.PWait
