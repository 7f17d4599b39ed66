/- graph.partOf, walked: the part in which a node is; nothing that was there has turned. Conditions: no more than 60 nodes, and a node. -/
import Derived.Test.YtbgcldckgiiedajDoorGraphSets
namespace Go.Proofs.YtbgcldckgiiedajDoor.PGraph
open Go Go.RowKit PPool
set_option maxRecDepth 100000

/-- What is in the part so far. -/
def partTo (X : List Gr.Ed) (n k t : Nat) : Nat := Gr.mask (fun j => decide (j = k) || (decide (j < t) && (Gr.W X n k j && Gr.W X n j k))) n
theorem partTo_none (X : List Gr.Ed) {n k : Nat} (hk : k < n) : partTo X n k 0 = 2 ^ k := by
  rw [Gr.one_mask hk]
  exact Gr.mask_congr fun j _ => by simp
theorem partTo_all (X : List Gr.Ed) (n k : Nat) : partTo X n k n = Gr.mask (Gr.eqv X n k) n :=
  Gr.mask_congr fun j hj => by
    unfold Gr.eqv
    rw [decide_eq_true hj, Bool.true_and]
    congr 1
    simp [eq_comm]
theorem partTo_hit {X : List Gr.Ed} {n k t : Nat} (ht : t < n) (h : (Gr.W X n k t && Gr.W X n t k) = true) : partTo X n k (t + 1) = partTo X n k t ||| 2 ^ t := by
  unfold partTo
  rw [Gr.mask_one _ ht]
  refine Gr.mask_congr fun j _ => ?_
  by_cases hj : j = t
  · subst hj; rw [h]; simp
  · have : decide (j < t + 1) = decide (j < t) := by simp; omega
    simp [this, hj]
theorem partTo_miss {X : List Gr.Ed} {n k t : Nat} (h : (Gr.W X n k t && Gr.W X n t k) = false) : partTo X n k (t + 1) = partTo X n k t := by
  refine Gr.mask_congr fun j _ => ?_
  by_cases hj : j = t
  · subst hj; rw [h]; simp
  · have : decide (j < t + 1) = decide (j < t) := by simp; omega
    rw [this]

set_option maxHeartbeats 2000000 in
theorem part_any (w : World) (n k : Nat) (a : Option Addr) (c : Nat) (X : List Gr.Ed) (h : SetsAt w a (Gr.ways X n)) (hn : n ≤ 60) (hk : k < n) :
    Calls Tryd.prog 30 #[.slice a n c, .int .i64 (k : Int)] w fun e w' => e = .returned (.int .u64 ((Gr.mask (Gr.eqv X n k) n : Nat) : Int)) ∧ Below w.heap.size w w' := by
  have H := hid h
  have KH := hid fun W s k => has_any W s k
  have KO := hid fun W k => only_any W k
  rw [← partTo_all]
  have h0 := partTo_none X hk
  have HO := hid (KO.out w k (by omega))
  rw [← h0] at HO
  have k0 : (0 : Int) ≤ (k : Int) := by omega
  have k1 : (k : Int) < (n : Int) := by omega
  clear h h0
  go_enter Tryd.func30, Tryd.ntmps30
  go_wp2_with fail
  refine (HO.out).mono ?_
  rintro r w0 ⟨rfl, hb0⟩
  have HB0 := hid hb0
  clear hb0 HO
  go_wp2_with fail
  go_loopw [11, 5] (fun i v wr => ∃ t : Nat, t ≤ n ∧ i = .int .i64 (t : Int) ∧ v = .int .u64 ((partTo X n k t : Nat) : Int) ∧ Hid (Below w.heap.size w wr)) (fun i _ _ => n - (intOf i).toNat)
  case atStart => exact ⟨0, Nat.zero_le _, rfl, rfl, HB0⟩
  case round =>
    obtain ⟨t, ht, rfl, rfl, hb⟩ := hrel
    by_cases hlt : t < n
    · have t0 : (0 : Int) ≤ (t : Int) := by omega
      have t1 : (t : Int) < (n : Int) := by omega
      have hatk : (Gr.ways X n)[k]? = some (Gr.mask (Gr.W X n k) n) := Gr.row_at _ hk
      have hatt : (Gr.ways X n)[t]? = some (Gr.mask (Gr.W X n t) n) := Gr.row_at _ hlt
      have hb1 := Gr.testBit_mask (Gr.W X n k) n t
      have hb2 := Gr.testBit_mask (Gr.W X n t) n k
      rw [decide_eq_true hlt, Bool.true_and] at hb1
      rw [decide_eq_true hk, Bool.true_and] at hb2
      have hv64 := Gr.mask_lt64 (Gr.W X n k) hn
      have hu64 := Gr.mask_lt64 (Gr.W X n t) hn
      obtain ⟨v, hv⟩ : ∃ v, v = Gr.mask (Gr.W X n k) n := ⟨_, rfl⟩
      obtain ⟨u, hu⟩ : ∃ u, u = Gr.mask (Gr.W X n t) n := ⟨_, rfl⟩
      rw [← hv] at hatk hb1 hv64
      rw [← hu] at hatt hb2 hu64
      obtain ⟨b, o, rfl, d1⟩ := (H.out.below hb.out) k v hatk
      obtain ⟨b', o', e, d2⟩ := (H.out.below hb.out) t u hatt
      cases e
      have HI := hid (KH.out wr v t hv64 (by omega))
      have HJ := hid fun W => KH.out W u k hu64 (by omega)
      have HQ := hid fun W => KO.out W t (by omega)
      rw [hb1] at HI
      rw [hb2] at HJ
      have hp64 := Gr.mask_lt64 (fun j => decide (j = k) || (decide (j < t) && (Gr.W X n k j && Gr.W X n j k))) hn
      have hhit := partTo_hit (X := X) (k := k) hlt
      have hmiss := partTo_miss (X := X) (n := n) (k := k) (t := t)
      rw [show Gr.mask _ n = partTo X n k t from rfl] at hp64
      obtain ⟨P, hP⟩ : ∃ P, P = partTo X n k t := ⟨_, rfl⟩
      obtain ⟨P', hP'⟩ : ∃ P', P' = partTo X n k (t + 1) := ⟨_, rfl⟩
      rw [← hP] at hhit hmiss hp64 ⊢
      rw [← hP'] at hhit hmiss
      have HP' := hid hP'
      clear hatk hatt hb1 hb2 hv hu hP hP'
      cases hW1 : Gr.W X n k t with
      | false =>
        rw [hW1] at HI
        have HN := hid (hmiss (by rw [hW1]; rfl))
        clear hhit hmiss hW1 HJ
        rw [← HN.out]
        clear HN
        go_wp2_with fail
        refine (HI.out).mono ?_
        rintro r w1 ⟨rfl, hb1⟩
        have B1 : Hid (Below w.heap.size w w1) := below_tr hb.out hb1
        clear hb1 hb
        go_wp2_with fail
        go_roundw
        case rel => exact ⟨t + 1, by omega, by go_num, by rw [HP'.out], B1⟩
        case measure => simp [intOf]; omega
      | true =>
        rw [hW1] at HI
        cases hW2 : Gr.W X n t k with
        | false =>
          rw [hW2] at HJ
          have HN := hid (hmiss (by rw [hW1, hW2]; rfl))
          clear hhit hmiss hW1 hW2
          rw [← HN.out]
          clear HN
          go_wp2_with fail
          refine (HI.out).mono ?_
          rintro r w1 ⟨rfl, hb1⟩
          have B1 : Hid (Below w.heap.size w w1) := below_tr hb.out hb1
          have y2 := keep1 hb1 d2
          clear hb1 hb HI
          go_wp2_with fail
          refine (HJ.out _).mono ?_
          rintro r w2 ⟨rfl, hb2⟩
          have B2 : Hid (Below w.heap.size w w2) := below_tr B1.out hb2
          clear hb2 B1 HJ
          go_wp2_with fail
          go_roundw
          case rel => exact ⟨t + 1, by omega, by go_num, by rw [HP'.out], B2⟩
          case measure => simp [intOf]; omega
        | true =>
          rw [hW2] at HJ
          have HN := hid (hhit (by rw [hW1, hW2]; rfl))
          have hp := pow_lt64 (show t < 64 by omega)
          have hor : bits .or .u64 (P : Int) ((2 ^ t : Nat) : Int) = ((P ||| 2 ^ t : Nat) : Int) := u64_or_nat P (2 ^ t) hp64 hp
          rw [← HN.out] at hor
          obtain ⟨z, hz⟩ : ∃ z, z = 2 ^ t := ⟨_, rfl⟩
          rw [← hz] at hor HQ
          clear hhit hmiss hW1 hW2 HN hp hz
          go_wp2_with fail
          refine (HI.out).mono ?_
          rintro r w1 ⟨rfl, hb1⟩
          have B1 : Hid (Below w.heap.size w w1) := below_tr hb.out hb1
          have y2 := keep1 hb1 d2
          clear hb1 hb HI
          go_wp2_with fail
          refine (HJ.out _).mono ?_
          rintro r w2 ⟨rfl, hb2⟩
          have B2 : Hid (Below w.heap.size w w2) := below_tr B1.out hb2
          clear hb2 B1 HJ
          go_wp2_with fail
          refine (HQ.out _).mono ?_
          rintro r w3 ⟨rfl, hb3⟩
          have B3 : Hid (Below w.heap.size w w3) := below_tr B2.out hb3
          clear hb3 B2 HQ
          go_wp2_with fail
          go_roundw
          case rel => exact ⟨t + 1, by omega, by go_num, by rw [HP'.out], B3⟩
          case measure => simp [intOf]; omega
    · obtain rfl : t = n := by omega
      have j3 : decide ((t : Int) < (t : Int)) = false := by simp
      go_wp2_with fail
      go_ret
      exact ⟨rfl, hb.out⟩
end Go.Proofs.YtbgcldckgiiedajDoor.PGraph
