/- graph.allAhead, walked: it answers what the plain function says; nothing that was there has turned. Conditions: a right graph. -/
import Derived.Test.YtbgcldckgiiedajDoorGraphSets
namespace Go.Proofs.YtbgcldckgiiedajDoor.PGraph
open Go Go.RowKit PPool
set_option maxRecDepth 100000

set_option maxHeartbeats 2000000 in
theorem ahead_any (w : World) (n : Nat) (a : Option Addr) (c : Nat) (X : List Gr.Ed) (h : PgAt w a X) (hR : Right n X) :
    Calls Tryd.prog 20 #[.int .i64 (n : Int), .slice a X.length c] w fun e w' => ∃ v, e = .returned v ∧ OwnSets w' w.heap.size v (Gr.aheads X n) ∧ Below w.heap.size w w' := by
  have H := hid h
  have HR := hid hR
  have KO := hid fun W k => only_any W k
  have hmk := run_make_sets n (by have := hR.1; omega)
  have O0 := sets_made w n (by have := hR.1; unfold maxLen; omega)
  have hX2 := hR.2.1
  rw [← Gr.aheadRow_none X] at O0
  obtain ⟨M, hM⟩ : ∃ M, M = madeCells #[Value.int .u64 0] (n * 1) := ⟨_, rfl⟩
  rw [← hM] at hmk O0
  have O0' := hid O0
  clear h hR hM O0
  go_enter Tryd.func20, Tryd.ntmps20
  go_wp2_with fail
  go_loopw [12] (fun i wr => ∃ k : Nat, k ≤ X.length ∧ i = .int .i64 (k : Int) ∧ Hid (OwnSets wr w.heap.size (.slice (some ⟨w.heap.size, 0, none⟩) n n) (Gr.aheadRow X n k)) ∧ Hid (Below w.heap.size w wr)) (fun i _ => X.length - (intOf i).toNat)
  case atStart => exact ⟨0, Nat.zero_le _, rfl, O0', bx _ _⟩
  case round =>
    obtain ⟨k, hk, rfl, hO, hb⟩ := hrel
    by_cases hlt : k < X.length
    · obtain ⟨x, hx⟩ : ∃ x, X[k]? = some x := ⟨_, List.getElem?_eq_getElem hlt⟩
      obtain ⟨b, o, rfl, d1, d2⟩ := (H.out.below hb.out) k x hx
      have k0 : (0 : Int) ≤ (k : Int) := by omega
      have k1 : (k : Int) < (X.length : Int) := by omega
      obtain ⟨i, j, rfl, hi, hj⟩ := HR.out.at_ hx
      simp only at d1 d2
      obtain ⟨v, hv, hvl, hnx⟩ := Gr.aheadRow_next hx hi hj
      obtain ⟨u1, u2, u3⟩ := or_lt60 hvl hi HR.out.1
      have hor : bits .or .u64 (v : Int) ((2 ^ i : Nat) : Int) = ((v ||| 2 ^ i : Nat) : Int) := u64_or_nat v (2 ^ i) u1 u2
      have HI := hid fun W => KO.out W i (by have := HR.out.1; omega)
      have j0 : (0 : Int) ≤ (j : Int) := by omega
      have j1 : (j : Int) < (n : Int) := by omega
      have HNX := hid hnx
      have hsz := hb.out.size
      have hge := hO.out.ge
      have c2 := hO.out.cell hv
      have hfz := hO.out.fz j
      obtain ⟨p, hp⟩ : ∃ p, p = 2 ^ i := ⟨_, rfl⟩
      rw [← hp] at hor HI HNX
      obtain ⟨q, hq⟩ : ∃ q, q = v ||| p := ⟨_, rfl⟩
      rw [← hq] at hor HNX
      clear hx hnx hv hvl u1 u2 u3 hp hq
      have SB : Hid (∀ W, Below (wr.alloc (.cells #[.int .i64 (i : Int), .int .i64 (j : Int)] 28)).heap.size (wr.alloc (.cells #[.int .i64 (i : Int), .int .i64 (j : Int)] 28)) W → W.cell? ⟨wr.heap.size, 0, none⟩ = some (.int .i64 (i : Int)) ∧ W.cell? ⟨wr.heap.size, 1, none⟩ = some (.int .i64 (j : Int)) ∧ W.cell? ⟨w.heap.size, j, none⟩ = some (uc v) ∧ W.frozen? ⟨w.heap.size, j, none⟩ = false) := fun W hW => by
        obtain ⟨z0, z1⟩ := box2 hW
        have hW2 := below_tr (bx wr _) hW
        exact ⟨z0, z1, keep1 hW2 c2, (hW2.frozen (p := ⟨w.heap.size, j, none⟩) hge.2).trans hfz⟩
      clear c2 hfz
      go_wp2_with fail
      obtain ⟨z0, z1, z2, z3⟩ := SB.out _ (Below.refl _ _).drew
      go_region_with ((go_at_call 22; refine (HI.out _).mono ?_; rintro r w1 ⟨rfl, hb1⟩; obtain ⟨y0, y1, y2, y3⟩ := SB.out _ (drew_below hb1); have B1 := hid hb1; clear hb1))
      all_goals (have O1 : Hid (OwnSets (w1.setCell ⟨w.heap.size, j, none⟩ (uc q)) w.heap.size (.slice (some ⟨w.heap.size, 0, none⟩) n n) (Gr.aheadRow X n (k + 1))) := by rw [HNX.out]; exact (hO.out.below (below_tr (bx _ _) (drew_below B1.out))).set j q)
      all_goals (have B2 : Hid (Below w.heap.size w (w1.setCell ⟨w.heap.size, j, none⟩ (uc q))) := (below_tr hb.out (below_tr (bx _ _) (drew_below B1.out))).setCell (p := ⟨w.heap.size, j, none⟩) (Nat.le_refl _) _)
      all_goals clear z0 z1 z2 z3 y0 y1 y2 y3 SB B1 hO hb
      all_goals (go_wp2_with fail)
      all_goals go_roundw
      all_goals (try (case rel => exact ⟨k + 1, by omega, by go_num, O1, B2⟩))
      all_goals (try (case measure => simp [intOf]; omega))
    · obtain rfl : k = X.length := by omega
      have j3 : decide ((X.length : Int) < (X.length : Int)) = false := by simp
      have HO : Hid (OwnSets wr w.heap.size (.slice (some ⟨w.heap.size, 0, none⟩) n n) (Gr.aheads X n)) := by rw [← Gr.aheads_eq]; exact hO
      clear hO
      go_wp2_with fail
      go_ret
      exact ⟨_, rfl, HO.out, hb.out⟩
end Go.Proofs.YtbgcldckgiiedajDoor.PGraph
