/- wait.nextOver, walked: who is over behind one round more, in a row of its own; nothing that was there has turned. Conditions: a right graph. -/
import Derived.Test.YtbgcldckgiiedacDoorWaitNum
import Derived.Test.YtbgcldckgiiedacDoorGraphBol
namespace Go.Proofs.YtbgcldckgiiedacDoor.PWait
open Go Go.RowKit PPool PGraph
set_option maxRecDepth 100000

set_option maxHeartbeats 4000000 in
theorem nextOver_any (w : World) (n r : Nat) (a0 : Option Addr) (c0 : Nat) (a : Option Addr) (c : Nat) (X : List Gr.Ed) (h0 : BoolsAt w a0 (Wa.bow (Wa.over X r) n)) (h : PgAt w a X) (hR : Right n X) :
    Calls Tryd.prog 12 #[.slice a0 n c0, .slice a X.length c] w fun e w' => ∃ v, e = .returned v ∧ OwnBools w' w.heap.size v (Wa.bow (Wa.over X (r + 1)) n) ∧ Below w.heap.size w w' := by
  have H0 := hid h0
  have H := hid h
  have HR := hid hR
  have hn := hR.1
  have hX2 := hR.2.1
  have hmk := run_make_bools n (by omega)
  have OB : Hid (OwnBools (w.alloc (.cells (madeCells #[.bool false] (n * 1)) 4)) w.heap.size (.slice (some ⟨w.heap.size, 0, none⟩) n n) (Wa.bow (fun i => decide (i < 0)) n)) := by
    have := row_made Value.bool 4 false w n (by unfold maxLen; omega)
    show OwnBools _ _ _ _
    rw [show (fun i => decide (i < 0)) = fun _ : Nat => false from by funext i; simp, Wa.bow_const]
    exact this
  obtain ⟨M, hM⟩ : ∃ M, M = madeCells #[Value.bool false] (n * 1) := ⟨_, rfl⟩
  rw [← hM] at hmk OB
  clear h0 h hR hM
  go_enter Tryd.func12, Tryd.ntmps12
  go_wp2_with fail
  go_loopw [14] (fun i wr => ∃ m : Nat, m ≤ n ∧ i = .int .i64 (m : Int) ∧ Hid (OwnBools wr w.heap.size (.slice (some ⟨w.heap.size, 0, none⟩) n n) (Wa.bow (fun i => decide (i < m)) n)) ∧ Hid (Below w.heap.size w wr)) (fun i _ => n - (intOf i).toNat)
  case atStart => exact ⟨0, Nat.zero_le _, rfl, OB, bx _ _⟩
  case round =>
    clear hmk OB
    obtain ⟨m, hm, rfl, hO, hb⟩ := hrel
    by_cases hlt : m < n
    · have m0 : (0 : Int) ≤ (m : Int) := by omega
      have m1 : (m : Int) < (n : Int) := by omega
      have hfz := hO.out.fz m
      have hd := hO.out.cell (Wa.bow_at _ hlt)
      have O1 : Hid (OwnBools (wr.setCell ⟨w.heap.size, m, none⟩ (.bool true)) w.heap.size (.slice (some ⟨w.heap.size, 0, none⟩) n n) (Wa.bow (fun i => decide (i < m + 1)) n)) := by
        have := hO.out.set m true
        rw [Wa.bow_true] at this
        exact this
      have B1 : Hid (Below w.heap.size w (wr.setCell ⟨w.heap.size, m, none⟩ (.bool true))) := hb.out.setCell (p := ⟨w.heap.size, m, none⟩) (Nat.le_refl _) _
      clear hO hb
      go_wp2_with fail
      go_roundw
      case rel => exact ⟨m + 1, by omega, by go_num, O1, B1⟩
      case measure => simp [intOf]; omega
    · obtain rfl : m = n := by omega
      have j3 : decide ((m : Int) < (m : Int)) = false := by simp
      have O0 : Hid (OwnBools wr w.heap.size (.slice (some ⟨w.heap.size, 0, none⟩) m m) (Wa.bow (Wa.nx X r 0) m)) := by
        show OwnBools _ _ _ _
        rw [show Wa.bow (Wa.nx X r 0) m = Wa.bow (fun i => decide (i < m)) m from Wa.bow_congr fun i hi => by rw [Wa.nx_none]; simp [hi]]
        exact hO.out
      have B0 := hid hb.out
      clear hO hb
      go_wp2_with fail
      go_loopw [23] (fun i wr => ∃ k : Nat, k ≤ X.length ∧ i = .int .i64 (k : Int) ∧ Hid (OwnBools wr w.heap.size (.slice (some ⟨w.heap.size, 0, none⟩) m m) (Wa.bow (Wa.nx X r k) m)) ∧ Hid (Below w.heap.size w wr)) (fun i _ => X.length - (intOf i).toNat)
      case atStart => exact ⟨0, Nat.zero_le _, rfl, O0, B0⟩
      case round =>
        clear O0 B0
        obtain ⟨k, hk, rfl, hO, hb⟩ := hrel
        by_cases hlk : k < X.length
        · obtain ⟨x, hx⟩ : ∃ x, X[k]? = some x := ⟨_, List.getElem?_eq_getElem hlk⟩
          obtain ⟨b, o, rfl, d1, d2⟩ := (H.out.below hb.out) k x hx
          have k0 : (0 : Int) ≤ (k : Int) := by omega
          have k1 : (k : Int) < (X.length : Int) := by omega
          obtain ⟨i, j, rfl, hi, hj⟩ := HR.out.at_ hx
          simp only at d1 d2
          have i0 : (0 : Int) ≤ (i : Int) := by omega
          have i1 : (i : Int) < (m : Int) := by omega
          have j0 : (0 : Int) ≤ (j : Int) := by omega
          have j1 : (j : Int) < (m : Int) := by omega
          have hbw := bx wr (.cells #[.int .i64 (i : Int), .int .i64 (j : Int)] 34)
          have OA := hid (hO.out.below hbw)
          have BA : Hid (Below w.heap.size w (wr.alloc (.cells #[.int .i64 (i : Int), .int .i64 (j : Int)] 34))) := below_tr hb.out hbw
          obtain ⟨b0, o0, rfl, d3⟩ := (H0.out.below BA.out) j _ (Wa.bow_at _ hj)
          cases ho : Wa.over X r j with
          | true =>
            rw [ho] at d3
            have OA : Hid (OwnBools (wr.alloc (.cells #[.int .i64 (i : Int), .int .i64 (j : Int)] 34)) w.heap.size (.slice (some ⟨w.heap.size, 0, none⟩) m m) (Wa.bow (Wa.nx X r (k + 1)) m)) := by
              show OwnBools _ _ _ _
              rw [← Wa.bow_miss hx ho]; exact OA.out
            clear hx ho hO hb hbw
            go_wp2_with fail
            go_roundw
            case rel => exact ⟨k + 1, by omega, by go_num, OA, BA⟩
            case measure => simp [intOf]; omega
          | false =>
            rw [ho] at d3
            have hfz := OA.out.fz i
            have hd := OA.out.cell (Wa.bow_at _ hi)
            have O1 : Hid (OwnBools ((wr.alloc (.cells #[.int .i64 (i : Int), .int .i64 (j : Int)] 34)).setCell ⟨w.heap.size, i, none⟩ (.bool false)) w.heap.size (.slice (some ⟨w.heap.size, 0, none⟩) m m) (Wa.bow (Wa.nx X r (k + 1)) m)) := by
              show OwnBools _ _ _ _
              rw [← Wa.bow_hit hx ho]; exact OA.out.set i false
            have B1 : Hid (Below w.heap.size w ((wr.alloc (.cells #[.int .i64 (i : Int), .int .i64 (j : Int)] 34)).setCell ⟨w.heap.size, i, none⟩ (.bool false))) := BA.out.setCell (p := ⟨w.heap.size, i, none⟩) (Nat.le_refl _) _
            clear hx ho hO hb hbw OA BA
            go_wp2_with fail
            go_roundw
            case rel => exact ⟨k + 1, by omega, by go_num, O1, B1⟩
            case measure => simp [intOf]; omega
        · obtain rfl : k = X.length := by omega
          have j4 : decide ((X.length : Int) < (X.length : Int)) = false := by simp
          have e : Wa.bow (Wa.nx X r X.length) m = Wa.bow (Wa.over X (r + 1)) m := Wa.bow_congr fun i _ => Wa.nx_all X r i
          rw [e] at hO
          clear e
          go_wp2_with fail
          go_ret
          exact ⟨_, rfl, hO.out, hb.out⟩
end Go.Proofs.YtbgcldckgiiedacDoor.PWait
