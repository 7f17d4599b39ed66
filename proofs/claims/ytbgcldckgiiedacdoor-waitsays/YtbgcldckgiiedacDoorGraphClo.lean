/- quirref.Closure, walked: to which nodes one comes, in a square of its own; nothing that was there has turned. Conditions: a right graph. -/
import Derived.Test.YtbgcldckgiiedacDoorGraphMat
import Derived.BigRegion
namespace Go.Proofs.YtbgcldckgiiedacDoor.PGraph
open Go Go.RowKit PPool
set_option maxRecDepth 100000

set_option maxHeartbeats 8000000 in
theorem clo_any (w : World) (n : Nat) (a : Option Addr) (c : Nat) (X : List Gr.Ed) (h : PgAt w a X) (hR : Right n X) :
    Calls Tryd.prog 16 #[.int .i64 (n : Int), .slice a X.length c] w fun e w' => e = .returned (.slice (some ⟨w.heap.size, 0, none⟩) n n) ∧ Mat w' w.heap.size n (Gr.W X n) ∧ Below w.heap.size w w' := by
  have H := hid h
  have HR := hid hR
  have hn := hR.1
  have hX2 := hR.2.1
  have hmk := run_make_brows n (by omega)
  have hmk2 := run_make_bools n (by omega)
  have OB := hid fun W => row_made Value.bool 4 false W n (by unfold maxLen; omega)
  have OR : Hid (OwnR id 35 (w.alloc (.cells (madeCells #[.slice none 0 0] (n * 1)) 35)) w.heap.size (.slice (some ⟨w.heap.size, 0, none⟩) n n) (brows w.heap.size n 0)) := by
    show OwnR _ _ _ _ _ _
    rw [brows_none]
    exact row_made id 35 (.slice none 0 0) w n (by unfold maxLen; omega)
  obtain ⟨M, hM⟩ : ∃ M, M = madeCells #[Value.bool false] (n * 1) := ⟨_, rfl⟩
  obtain ⟨M', hM'⟩ : ∃ M', M' = madeCells #[Value.slice none 0 0] (n * 1) := ⟨_, rfl⟩
  rw [← hM] at hmk2 OB
  rw [← hM'] at hmk OR
  clear h hR hM hM'
  go_enter Tryd.func16, Tryd.ntmps16
  go_wp2_with fail
  go_loopw [16] (fun i wr => ∃ m : Nat, m ≤ n ∧ i = .int .i64 (m : Int) ∧ Hid (OwnR id 35 wr w.heap.size (.slice (some ⟨w.heap.size, 0, none⟩) n n) (brows w.heap.size n m)) ∧ Hid (∀ a, a < m → OwnBools wr w.heap.size (brow w.heap.size n a) (List.replicate n false)) ∧ Hid (wr.heap.size = w.heap.size + 1 + m) ∧ Hid (Below w.heap.size w wr)) (fun i _ => n - (intOf i).toNat)
  case atStart => exact ⟨0, Nat.zero_le _, rfl, OR, fun a ha => absurd ha (Nat.not_lt_zero _), by show _ = _; rw [World.size_alloc], bx _ _⟩
  case round =>
    clear hmk OR
    obtain ⟨m, hm, rfl, hO, hA, hS, hb⟩ := hrel
    by_cases hlt : m < n
    · have m0 : (0 : Int) ≤ (m : Int) := by omega
      have m1 : (m : Int) < (n : Int) := by omega
      have hfz := (hO.out.below (bx wr (.cells M 4))).fz m
      have c0 := (hO.out.below (bx wr (.cells M 4))).cell (k := m) (x := if m < m then brow w.heap.size n m else .slice none 0 0) (by simp [brows, hlt])
      rw [if_neg (Nat.lt_irrefl _)] at c0
      have O1 : Hid (OwnR id 35 ((wr.alloc (.cells M 4)).setCell ⟨w.heap.size, m, none⟩ (.slice (some ⟨wr.heap.size, 0, none⟩) n n)) w.heap.size (.slice (some ⟨w.heap.size, 0, none⟩) n n) (brows w.heap.size n (m + 1))) := by
        have := (hO.out.below (bx wr (.cells M 4))).set m (brow w.heap.size n m)
        rw [brows_next] at this
        have e : (brow w.heap.size n m) = .slice (some ⟨wr.heap.size, 0, none⟩) n n := by unfold brow; rw [hS.out]
        rw [e] at this
        exact this
      have A1 : Hid (∀ a, a < m + 1 → OwnBools ((wr.alloc (.cells M 4)).setCell ⟨w.heap.size, m, none⟩ (.slice (some ⟨wr.heap.size, 0, none⟩) n n)) w.heap.size (brow w.heap.size n a) (List.replicate n false)) := fun a ha => by
        have key : OwnBools (wr.alloc (.cells M 4)) w.heap.size (brow w.heap.size n a) (List.replicate n false) := by
          rcases Nat.lt_or_ge a m with h1 | h1
          · exact (hA.out a h1).below (bx _ _)
          · have : a = m := by omega
            subst this
            have := (OB.out wr).lower (base' := w.heap.size) (by rw [hS.out]; omega)
            rwa [hS.out] at this
        refine key.keep fun g hg => Below.heap_setCell _ _ _ _ (fun e' => by
          have e1 : w.heap.size + 1 + a = g := by simpa [brow, Value.ownBlock] using hg
          have e2 : g = w.heap.size := e'
          omega)
      have S1 : Hid (((wr.alloc (.cells M 4)).setCell ⟨w.heap.size, m, none⟩ (.slice (some ⟨wr.heap.size, 0, none⟩) n n)).heap.size = w.heap.size + 1 + (m + 1)) := by
        show _ = _
        have := hS.out
        simp
        omega
      have B1 : Hid (Below w.heap.size w ((wr.alloc (.cells M 4)).setCell ⟨w.heap.size, m, none⟩ (.slice (some ⟨wr.heap.size, 0, none⟩) n n))) := (below_tr hb.out (bx _ _)).setCell (p := ⟨w.heap.size, m, none⟩) (Nat.le_refl _) _
      clear hO hA hS hb
      go_wp2_with fail
      go_roundw
      case rel => exact ⟨m + 1, by omega, by go_num, O1, A1, S1, B1⟩
      case measure => simp [intOf]; omega
    · obtain rfl : m = n := by omega
      have j3 : decide ((m : Int) < (m : Int)) = false := by simp
      have HM0 : Hid (Mat wr w.heap.size m (fun i j => Gr.E (X.take 0) i j)) := ⟨hO.out, fun i hi => by
        rw [show (List.range m).map (fun j => Gr.E (X.take 0) i j) = List.replicate m false from by
          rw [show (fun j => Gr.E (X.take 0) i j) = fun _ => false from by funext j; simp [Gr.E], List.map_const', List.length_range]]
        exact hA.out i hi⟩
      have HB0 := hid hb.out
      clear hO hA hS hb hmk2 OB
      go_wp2_with fail
      go_loopw [27] (fun i wr => ∃ k : Nat, k ≤ X.length ∧ i = .int .i64 (k : Int) ∧ Hid (Mat wr w.heap.size m (fun i j => Gr.E (X.take k) i j)) ∧ Hid (Below w.heap.size w wr)) (fun i _ => X.length - (intOf i).toNat)
      case atStart => exact ⟨0, Nat.zero_le _, rfl, HM0, HB0⟩
      case round =>
        clear HM0 HB0
        obtain ⟨k, hk, rfl, hM, hb⟩ := hrel
        by_cases hlk : k < X.length
        · obtain ⟨x, hx⟩ : ∃ x, X[k]? = some x := ⟨_, List.getElem?_eq_getElem hlk⟩
          obtain ⟨b, o, rfl, d1, d2⟩ := (H.out.below hb.out) k x hx
          have k0 : (0 : Int) ≤ (k : Int) := by omega
          have k1 : (k : Int) < (X.length : Int) := by omega
          obtain ⟨i, j, rfl, hi, hj⟩ := HR.out.at_ hx
          simp only at d1 d2
          have i0 : (0 : Int) ≤ (i : Int) := by omega
          have i1 : (i : Int) < (m : Int) := by omega
          have j0 : (0 : Int) ≤ (j : Int) := by omega
          have j1 : (j : Int) < (m : Int) := by omega
          have HX := hid hx
          have MA := hid (hM.out.below (bx wr (.cells #[.int .i64 (i : Int), .int .i64 (j : Int)] 34))).drew
          have BA : Hid (Below w.heap.size w (wr.alloc (.cells #[.int .i64 (i : Int), .int .i64 (j : Int)] 34)).drew) := (below_tr hb.out (bx _ _)).drew
          obtain ⟨e0, e1⟩ := new2 wr (.int .i64 (i : Int)) (.int .i64 (j : Int)) 34
          have c1 := MA.out.head hi
          have c2 := MA.out.cell hi hj
          have c3 := MA.out.fz hi j
          clear hx hM hb
          go_wp2_with fail
          go_region
          have M1 : Hid (Mat ((wr.alloc (.cells #[.int .i64 (i : Int), .int .i64 (j : Int)] 34)).drew.setCell ⟨w.heap.size + 1 + i, j, none⟩ (.bool true)) w.heap.size m (fun a c => Gr.E (X.take (k + 1)) a c)) := (MA.out.set hi true).congr fun a c _ _ => by
            rw [Gr.E_take HX.out]
            by_cases h : a = i ∧ c = j
            · rw [if_pos h]; simp [h]
            · rw [if_neg h]
              have : (decide (a = i) && decide (c = j)) = false := by
                rw [Bool.and_eq_false_iff, decide_eq_false_iff_not, decide_eq_false_iff_not]
                by_cases h1 : a = i
                · exact .inr fun h2 => h ⟨h1, h2⟩
                · exact .inl h1
              rw [this, Bool.or_false]
          have B1 : Hid (Below w.heap.size w ((wr.alloc (.cells #[.int .i64 (i : Int), .int .i64 (j : Int)] 34)).drew.setCell ⟨w.heap.size + 1 + i, j, none⟩ (.bool true))) := BA.out.setCell (p := ⟨w.heap.size + 1 + i, j, none⟩) (by show w.heap.size ≤ w.heap.size + 1 + i; omega) _
          clear MA BA e0 e1 c1 c2 c3
          go_wp2_with fail
          go_roundw
          case rel => exact ⟨k + 1, by omega, by go_num, M1, B1⟩
          case measure => simp [intOf]; omega
        · obtain rfl : k = X.length := by omega
          have j3 : decide ((X.length : Int) < (X.length : Int)) = false := by simp
          have HM0 : Hid (Mat wr w.heap.size m (Gr.W X 0)) := by
            have := hM.out
            rw [List.take_length] at this
            exact this
          have HB0 := hid hb.out
          clear hM hb
          go_wp2_with fail
          go_loopw [41] (fun i wr => ∃ k : Nat, k ≤ m ∧ i = .int .i64 (k : Int) ∧ Hid (Mat wr w.heap.size m (Gr.W X k)) ∧ Hid (Below w.heap.size w wr)) (fun i _ => m - (intOf i).toNat)
          case atStart => exact ⟨0, Nat.zero_le _, rfl, HM0, HB0⟩
          case round =>
            clear HM0 HB0
            obtain ⟨k, hk, rfl, hM, hb⟩ := hrel
            by_cases hkm : k < m
            · have k0 : (0 : Int) ≤ (k : Int) := by omega
              have k1 : (k : Int) < (m : Int) := by omega
              have HM0 : Hid (Mat wr w.heap.size m (Gr.cloF X k 0 0)) := hM.out.congr fun a c _ _ => (Gr.cloF_start X k a c).symm
              have HB0 := hid hb.out
              clear hM hb
              go_wp2_with fail
              go_loopw [45] (fun i wr => ∃ p : Nat, p ≤ m ∧ i = .int .i64 (p : Int) ∧ Hid (Mat wr w.heap.size m (Gr.cloF X k p 0)) ∧ Hid (Below w.heap.size w wr)) (fun i _ => m - (intOf i).toNat)
              case atStart => exact ⟨0, Nat.zero_le _, rfl, HM0, HB0⟩
              case round =>
                clear HM0 HB0
                obtain ⟨p, hp, rfl, hM, hb⟩ := hrel
                by_cases hpm : p < m
                · have p0 : (0 : Int) ≤ (p : Int) := by omega
                  have p1 : (p : Int) < (m : Int) := by omega
                  go_wp2_with fail
                  go_loopw [49] (fun i wr => ∃ q : Nat, q ≤ m ∧ i = .int .i64 (q : Int) ∧ Hid (Mat wr w.heap.size m (Gr.cloF X k p q)) ∧ Hid (Below w.heap.size w wr)) (fun i _ => m - (intOf i).toNat)
                  case atStart => exact ⟨0, Nat.zero_le _, rfl, hM, hb⟩
                  case round =>
                    clear hM hb
                    obtain ⟨q, hq, rfl, hM, hb⟩ := hrel
                    by_cases hqm : q < m
                    · have q0 : (0 : Int) ≤ (q : Int) := by omega
                      have q1 : (q : Int) < (m : Int) := by omega
                      have MD := hid hM.out.drew
                      have BD : Hid (Below w.heap.size w wr.drew) := hb.out.drew
                      have c1 := MD.out.head hpm
                      have c2 := MD.out.head hkm
                      have c3 := MD.out.cell hpm hqm
                      have c4 := MD.out.cell hpm hkm
                      have c5 := MD.out.cell hkm hqm
                      have c6 := MD.out.fz hpm q
                      rw [Gr.cloF_self] at c3
                      rw [Gr.cloF_left] at c4
                      rw [Gr.cloF_right] at c5
                      have M1 : Hid (∀ v, v = Gr.W X (k + 1) p q → Mat (wr.drew.setCell ⟨w.heap.size + 1 + p, q, none⟩ (.bool v)) w.heap.size m (Gr.cloF X k p (q + 1))) := fun v hv => (MD.out.set hpm v).congr fun a c _ _ => by rw [hv]; exact Gr.cloF_next X k p q a c
                      have B1 : Hid (∀ v, Below w.heap.size w (wr.drew.setCell ⟨w.heap.size + 1 + p, q, none⟩ v)) := fun v => BD.out.setCell (p := ⟨w.heap.size + 1 + p, q, none⟩) (by show w.heap.size ≤ w.heap.size + 1 + p; omega) _
                      have HV : Hid (Gr.W X (k + 1) p q = (Gr.W X k p q || (Gr.W X k p k && Gr.W X k k q))) := rfl
                      clear hM hb MD BD
                      cases hv1 : Gr.W X k p q with
                      | true =>
                        rw [hv1] at c3
                        have HT : Hid (true = Gr.W X (k + 1) p q) := by show _ = _; rw [HV.out, hv1]; rfl
                        clear hv1 HV
                        go_wp2_with fail
                        go_region
                        have M2 := hid (M1.out _ HT.out)
                        have B2 := hid (B1.out (.bool true))
                        clear c1 c2 c3 c4 c5 c6
                        go_wp2_with fail
                        go_roundw
                        case rel => exact ⟨q + 1, by omega, by go_num, M2, B2⟩
                        case measure => simp [intOf]; omega
                      | false =>
                        rw [hv1] at c3
                        cases hv2 : Gr.W X k p k with
                        | false =>
                          rw [hv2] at c4
                          have HT : Hid (false = Gr.W X (k + 1) p q) := by show _ = _; rw [HV.out, hv1, hv2]; rfl
                          clear hv1 hv2 HV
                          go_wp2_with fail
                          go_region
                          have M2 := hid (M1.out _ HT.out)
                          have B2 := hid (B1.out (.bool false))
                          clear c1 c2 c3 c4 c5 c6
                          go_wp2_with fail
                          go_roundw
                          case rel => exact ⟨q + 1, by omega, by go_num, M2, B2⟩
                          case measure => simp [intOf]; omega
                        | true =>
                          rw [hv2] at c4
                          have HT : Hid (Gr.W X k k q = Gr.W X (k + 1) p q) := by show _ = _; rw [HV.out, hv1, hv2]; simp
                          obtain ⟨vv, hvv⟩ : ∃ vv, vv = Gr.W X k k q := ⟨_, rfl⟩
                          rw [← hvv] at c5 HT
                          clear hv1 hv2 HV hvv
                          go_wp2_with fail
                          go_region
                          have M2 := hid (M1.out _ HT.out)
                          have B2 := hid (B1.out (.bool vv))
                          clear c1 c2 c3 c4 c5 c6
                          go_wp2_with fail
                          go_roundw
                          case rel => exact ⟨q + 1, by omega, by go_num, M2, B2⟩
                          case measure => simp [intOf]; omega
                    · obtain rfl : q = m := by omega
                      have j4 : decide ((q : Int) < (q : Int)) = false := by simp
                      have M1 : Hid (Mat wr w.heap.size q (Gr.cloF X k (p + 1) 0)) := hM.out.congr fun a c _ hc => Gr.cloF_row hc
                      have B1 := hid hb.out
                      clear hM hb
                      go_wp2_with fail
                      go_roundw
                      case rel => exact ⟨p + 1, by omega, by go_num, M1, B1⟩
                      case measure => simp [intOf]; omega
                · obtain rfl : p = m := by omega
                  have j4 : decide ((p : Int) < (p : Int)) = false := by simp
                  have M1 : Hid (Mat wr w.heap.size p (Gr.W X (k + 1))) := hM.out.congr fun a c ha _ => Gr.cloF_end ha
                  have B1 := hid hb.out
                  clear hM hb
                  go_wp2_with fail
                  go_roundw
                  case rel => exact ⟨k + 1, by omega, by go_num, M1, B1⟩
                  case measure => simp [intOf]; omega
            · obtain rfl : k = m := by omega
              have j4 : decide ((k : Int) < (k : Int)) = false := by simp
              go_wp2_with fail
              go_ret
              exact ⟨rfl, hM.out, hb.out⟩
end Go.Proofs.YtbgcldckgiiedacDoor.PGraph
