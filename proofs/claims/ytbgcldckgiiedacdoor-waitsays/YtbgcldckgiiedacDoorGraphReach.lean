/- graph.allReach, walked: of each node to which ones one comes from it; nothing that was there has turned. Conditions: a right graph. -/
import Derived.Test.YtbgcldckgiiedacDoorGraphSets
namespace Go.Proofs.YtbgcldckgiiedacDoor.PGraph
open Go Go.RowKit PPool
set_option maxRecDepth 100000

set_option maxHeartbeats 4000000 in
theorem reach_any (w : World) (n : Nat) (a : Option Addr) (c : Nat) (X : List Gr.Ed) (h : PgAt w a X) (hR : Right n X) :
    Calls Tryd.prog 27 #[.int .i64 (n : Int), .slice a X.length c] w fun e w' => ∃ v, e = .returned v ∧ OwnSets w' w.heap.size v (Gr.ways X n) ∧ Below w.heap.size w w' := by
  have H := hid h
  have HR := hid hR
  have KO := hid fun W k => only_any W k
  have KH := hid fun W s k => has_any W s k
  have hmk := run_make_sets n (by have := hR.1; omega)
  have O0 := sets_made w n (by have := hR.1; unfold maxLen; omega)
  have hX2 := hR.2.1
  rw [← Gr.nextRow_none X] at O0
  obtain ⟨M, hM⟩ : ∃ M, M = madeCells #[Value.int .u64 0] (n * 1) := ⟨_, rfl⟩
  rw [← hM] at hmk O0
  have O0' := hid O0
  clear h hR hM O0
  go_enter Tryd.func27, Tryd.ntmps27
  go_wp2_with fail
  go_loopw [14] (fun i wr => ∃ k : Nat, k ≤ X.length ∧ i = .int .i64 (k : Int) ∧ Hid (OwnSets wr w.heap.size (.slice (some ⟨w.heap.size, 0, none⟩) n n) (Gr.nextRow X n k)) ∧ Hid (Below w.heap.size w wr)) (fun i _ => X.length - (intOf i).toNat)
  case atStart => exact ⟨0, Nat.zero_le _, rfl, O0', bx _ _⟩
  case round =>
    obtain ⟨k, hk, rfl, hO, hb⟩ := hrel
    by_cases hlt : k < X.length
    · obtain ⟨x, hx⟩ : ∃ x, X[k]? = some x := ⟨_, List.getElem?_eq_getElem hlt⟩
      obtain ⟨b, o, rfl, d1, d2⟩ := (H.out.below hb.out) k x hx
      have k0 : (0 : Int) ≤ (k : Int) := by omega
      have k1 : (k : Int) < (X.length : Int) := by omega
      obtain ⟨i, j, rfl, hi, hj⟩ := HR.out.at_ hx
      simp only at d1 d2
      obtain ⟨v, hv, hvl, hnx⟩ := Gr.nextRow_next hx hi hj
      obtain ⟨u1, u2, u3⟩ := or_lt60 hvl hj HR.out.1
      have hor : bits .or .u64 (v : Int) ((2 ^ j : Nat) : Int) = ((v ||| 2 ^ j : Nat) : Int) := u64_or_nat v (2 ^ j) u1 u2
      have HI := hid fun W => KO.out W j (by have := HR.out.1; omega)
      have i0 : (0 : Int) ≤ (i : Int) := by omega
      have i1 : (i : Int) < (n : Int) := by omega
      have HNX := hid hnx
      have hsz := hb.out.size
      have hge := hO.out.ge
      have c2 := hO.out.cell hv
      have hfz := hO.out.fz i
      obtain ⟨p, hp⟩ : ∃ p, p = 2 ^ j := ⟨_, rfl⟩
      rw [← hp] at hor HI HNX
      obtain ⟨q, hq⟩ : ∃ q, q = v ||| p := ⟨_, rfl⟩
      rw [← hq] at hor HNX
      clear hx hnx hv hvl u1 u2 u3 hp hq
      have SB : Hid (∀ W, Below (wr.alloc (.cells #[.int .i64 (i : Int), .int .i64 (j : Int)] 34)).heap.size (wr.alloc (.cells #[.int .i64 (i : Int), .int .i64 (j : Int)] 34)) W → W.cell? ⟨wr.heap.size, 0, none⟩ = some (.int .i64 (i : Int)) ∧ W.cell? ⟨wr.heap.size, 1, none⟩ = some (.int .i64 (j : Int)) ∧ W.cell? ⟨w.heap.size, i, none⟩ = some (uc v) ∧ W.frozen? ⟨w.heap.size, i, none⟩ = false) := fun W hW => by
        obtain ⟨z0, z1⟩ := box2 hW
        have hW2 := below_tr (bx wr _) hW
        exact ⟨z0, z1, keep1 hW2 c2, (hW2.frozen (p := ⟨w.heap.size, i, none⟩) hge.2).trans hfz⟩
      clear c2 hfz
      go_wp2_with fail
      obtain ⟨z0, z1, z2, z3⟩ := SB.out _ (Below.refl _ _).drew
      go_region_with ((go_at_call 43; refine (HI.out _).mono ?_; rintro r w1 ⟨rfl, hb1⟩; obtain ⟨y0, y1, y2, y3⟩ := SB.out _ (drew_below hb1); have B1 := hid hb1; clear hb1))
      all_goals (have O1 : Hid (OwnSets (w1.setCell ⟨w.heap.size, i, none⟩ (uc q)) w.heap.size (.slice (some ⟨w.heap.size, 0, none⟩) n n) (Gr.nextRow X n (k + 1))) := by rw [HNX.out]; exact (hO.out.below (below_tr (bx _ _) (drew_below B1.out))).set i q)
      all_goals (have B2 : Hid (Below w.heap.size w (w1.setCell ⟨w.heap.size, i, none⟩ (uc q))) := (below_tr hb.out (below_tr (bx _ _) (drew_below B1.out))).setCell (p := ⟨w.heap.size, i, none⟩) (Nat.le_refl _) _)
      all_goals clear z0 z1 z2 z3 y0 y1 y2 y3 SB B1 hO hb
      all_goals (go_wp2_with fail)
      all_goals go_roundw
      all_goals (try (case rel => exact ⟨k + 1, by omega, by go_num, O1, B2⟩))
      all_goals (try (case measure => simp [intOf]; omega))
    · obtain rfl : k = X.length := by omega
      have j3 : decide ((X.length : Int) < (X.length : Int)) = false := by simp
      have HO : Hid (OwnSets wr w.heap.size (.slice (some ⟨w.heap.size, 0, none⟩) n n) (Gr.wayRow X n 0 0)) := by rw [← Gr.wayRow_start]; exact hO
      have HB := hid hb.out
      clear hO hb KO O0' hmk
      go_wp2_with fail
      go_loopw [30] (fun i wr => ∃ b : Nat, b ≤ n ∧ i = .int .i64 (b : Int) ∧ Hid (OwnSets wr w.heap.size (.slice (some ⟨w.heap.size, 0, none⟩) n n) (Gr.wayRow X n b 0)) ∧ Hid (Below w.heap.size w wr)) (fun i _ => n - (intOf i).toNat)
      case atStart => exact ⟨0, Nat.zero_le _, rfl, HO, HB⟩
      case round =>
        clear HO HB
        obtain ⟨b, hbn, rfl, hO, hb⟩ := hrel
        by_cases hlb : b < n
        · have b0 : (0 : Int) ≤ (b : Int) := by omega
          have b1 : (b : Int) < (n : Int) := by omega
          have hn := HR.out.1
          go_wp2_with fail
          go_loopw [34] (fun i wr => ∃ f : Nat, f ≤ n ∧ i = .int .i64 (f : Int) ∧ Hid (OwnSets wr w.heap.size (.slice (some ⟨w.heap.size, 0, none⟩) n n) (Gr.wayRow X n b f)) ∧ Hid (Below w.heap.size w wr)) (fun i _ => n - (intOf i).toNat)
          case atStart => exact ⟨0, Nat.zero_le _, rfl, hO, hb⟩
          case round =>
            clear hO hb
            obtain ⟨f, hfn, rfl, hO, hb⟩ := hrel
            by_cases hlf : f < n
            · have f0 : (0 : Int) ≤ (f : Int) := by omega
              have f1 : (f : Int) < (n : Int) := by omega
              have hatf := Gr.wayRow_at (X := X) (b := b) hlf
              have hatb := Gr.wayRow_between (X := X) (f := f) hlb
              have hbit := Gr.testBit_mask (Gr.W X b f) n b
              rw [decide_eq_true hlb, Bool.true_and] at hbit
              have hv64 := Gr.mask_lt64 (Gr.W X b f) hn
              have hu64 := Gr.mask_lt64 (Gr.W X b b) hn
              have hhit := Gr.wayRow_hit (X := X) (n := n) (b := b) (f := f)
              obtain ⟨v, hv⟩ : ∃ v, v = Gr.mask (Gr.W X b f) n := ⟨_, rfl⟩
              obtain ⟨u, hu⟩ : ∃ u, u = Gr.mask (Gr.W X b b) n := ⟨_, rfl⟩
              rw [← hv] at hatf hbit hv64 hhit
              rw [← hu] at hatb hu64 hhit
              have c1 := hO.out.cell hatf
              have c2 := hO.out.cell hatb
              have hfz := hO.out.fz f
              have hge := hO.out.ge
              have HI := hid (KH.out wr v b hv64 (by omega))
              rw [hbit] at HI
              clear hatf hatb hbit hv hu
              cases hW : Gr.W X b f b with
              | false =>
                rw [hW] at HI
                have HN : Hid (Gr.wayRow X n b f = Gr.wayRow X n b (f + 1)) := (Gr.wayRow_miss hW).symm
                rw [HN.out] at hO
                clear hW hhit hfz c2 HN
                go_wp2_with fail
                refine (HI.out).mono ?_
                rintro r w1 ⟨rfl, hb1⟩
                have O1 : Hid (OwnSets w1 w.heap.size (.slice (some ⟨w.heap.size, 0, none⟩) n n) (Gr.wayRow X n b (f + 1))) := hO.out.below hb1
                have B1 : Hid (Below w.heap.size w w1) := below_tr hb.out hb1
                clear hb1 hO hb
                go_wp2_with fail
                go_roundw
                case rel => exact ⟨f + 1, by omega, by go_num, O1, B1⟩
                case measure => simp [intOf]; omega
              | true =>
                rw [hW] at HI
                have HN := hid (hhit hW)
                have hor : bits .or .u64 (v : Int) (u : Int) = ((v ||| u : Nat) : Int) := u64_or_nat v u hv64 hu64
                obtain ⟨q, hq⟩ : ∃ q, q = v ||| u := ⟨_, rfl⟩
                rw [← hq] at hor HN
                clear hW hhit hq hv64 hu64
                go_wp2_with fail
                refine (HI.out).mono ?_
                rintro r w1 ⟨rfl, hb1⟩
                have y1 := keep1 hb1 c1
                have y2 := keep1 hb1 c2
                have y3 := (hb1.frozen (p := ⟨w.heap.size, f, none⟩) hge.2).trans hfz
                have HB1 := hid hb1
                clear hb1 c1 c2 hfz HI
                go_wp2_with fail
                go_region
                all_goals (have O1 : Hid (OwnSets (w1.setCell ⟨w.heap.size, f, none⟩ (uc q)) w.heap.size (.slice (some ⟨w.heap.size, 0, none⟩) n n) (Gr.wayRow X n b (f + 1))) := by rw [HN.out]; exact (hO.out.below HB1.out).set f q)
                all_goals (have B2 : Hid (Below w.heap.size w (w1.setCell ⟨w.heap.size, f, none⟩ (uc q))) := (below_tr hb.out HB1.out).setCell (p := ⟨w.heap.size, f, none⟩) (Nat.le_refl _) _)
                all_goals clear y1 y2 y3 hO hb HB1
                all_goals (go_wp2_with fail)
                all_goals go_roundw
                all_goals (try (case rel => exact ⟨f + 1, by omega, by go_num, hid (O1.out.keep fun _ _ => rfl), hid B2.out.drew⟩))
                all_goals (try (case measure => simp [intOf]; omega))
            · obtain rfl : f = n := by omega
              have j4 : decide ((f : Int) < (f : Int)) = false := by simp
              have O1 : Hid (OwnSets wr w.heap.size (.slice (some ⟨w.heap.size, 0, none⟩) f f) (Gr.wayRow X f (b + 1) 0)) := by rw [← Gr.wayRow_round]; exact hO
              have B1 := hid hb.out
              clear hO hb
              go_wp2_with fail
              go_roundw
              case rel => exact ⟨b + 1, by omega, by go_num, O1, B1⟩
              case measure => simp [intOf]; omega
        · obtain rfl : b = n := by omega
          have j4 : decide ((b : Int) < (b : Int)) = false := by simp
          have O1 : Hid (OwnSets wr w.heap.size (.slice (some ⟨w.heap.size, 0, none⟩) b b) (Gr.ways X b)) := by rw [← Gr.ways_eq]; exact hO
          have B1 := hid hb.out
          clear hO hb
          go_wp2_with fail
          go_ret
          exact ⟨_, rfl, O1.out, B1.out⟩
end Go.Proofs.YtbgcldckgiiedacDoor.PGraph
