/- graph.Parts, walked: it answers what the plain function says, in rows of its own; nothing that was there has turned. Conditions: how many edges there are; the library's table is as its initialiser lays it. -/
import Derived.Test.YtbgcldckgiiedacDoorGraphReach
import Derived.Test.YtbgcldckgiiedacDoorGraphList
import Derived.Test.YtbgcldckgiiedacDoorGraphPart
import Derived.Test.YtbgcldckgiiedacDoorGraphCheck
import Derived.Test.YtbgcldckgiiedacDoorGraphRows
namespace Go.Proofs.YtbgcldckgiiedacDoor.PGraph
open Go Go.RowKit PPool
set_option maxRecDepth 100000

set_option maxHeartbeats 4000000 in
theorem parts_any (w : World) (n : Int) (a : Option Addr) (c : Nat) (X : List Gr.Ed) (h : PgAt w a X) (hl : X.length ≤ 9223372036854775807) (hT : Tab w) :
    Calls Tryd.prog 21 #[.int .i64 n, .slice a X.length c] w fun e w' => ∃ v, e = .returned (.tuple #[v, .int .i64 (Gr.check n X)]) ∧ OwnRows w' w.heap.size v (Gr.partList n X) ∧ Below w.heap.size w w' := by
  have H := hid h
  have HC := hid (check_any w n a c X h hl)
  by_cases h0 : Gr.check n X = 0
  · obtain ⟨n, rfl, hR⟩ := Right.of h0
    have HR := hid hR
    have hn := hR.1
    have e2 : Gr.partList (n : Int) X = Gr.parts X n := by unfold Gr.partList; rw [if_pos h0, Int.toNat_natCast]
    rw [h0] at HC ⊢
    rw [e2]
    have KR := hid fun W hp => reach_any W n a c X hp hR
    have KH := hid fun W s k => has_any W s k
    have KP := hid fun W k a' c' hp => part_any W n k a' c' X hp hn
    have KL := hid fun W s => list_any W s
    have HT := hid hT
    obtain ⟨i0, hi, hz0, hz1, hz2⟩ := info_parts rows_info
    clear h h0 e2 hR hT
    go_enter Tryd.func21, Tryd.ntmps21
    go_wp2_with fail
    refine (HC.out).mono ?_
    rintro r w1 ⟨rfl, hb1⟩
    have B1 := hid hb1
    clear hb1 HC
    go_wp2_with fail
    refine (KR.out _ (H.out.below B1.out)).mono ?_
    rintro r w2 ⟨v2, rfl, ho2, hb2⟩
    obtain ⟨a2, c2, rfl, hp2, -⟩ := ho2.at_
    rw [show (Gr.ways X n).length = n from Gr.row_len _ _]
    have B2 : Hid (Below w.heap.size w w2) := below_tr B1.out hb2
    have P2 := hid hp2
    have T2 := hid (HT.out.below B2.out)
    clear hb2 ho2 hp2 B1 KR HT
    go_wp2_with fail
    go_loopw [22, 8, 9] (fun i v p wr => ∃ (k : Nat), k ≤ n ∧ i = .int .i64 (k : Int) ∧ p = .int .u64 ((Gr.mask (Gr.toldTo X n k) n : Nat) : Int) ∧ Hid (OwnRows wr w2.heap.size v (Gr.partsTo X n k)) ∧ Hid (Below w2.heap.size w2 wr)) (fun i _ _ _ => n - (intOf i).toNat)
    case atStart => exact ⟨0, Nat.zero_le _, rfl, by rw [show Gr.toldTo X n 0 = fun _ => false from by funext i; simp [Gr.toldTo], Gr.mask_none]; rfl, OwnRows.nil _ _, Below.refl _ _⟩
    case round =>
      obtain ⟨k, hk, rfl, rfl, hO, hb⟩ := hrel
      by_cases hlt : k < n
      · have k1 : (k : Int) < (n : Int) := by omega
        have hbit := Gr.testBit_mask (Gr.toldTo X n k) n k
        rw [decide_eq_true hlt, Bool.true_and, Gr.told_rep hlt] at hbit
        have hq64 := Gr.mask_lt64 (Gr.toldTo X n k) hn
        have hps := Gr.partsTo_succ X n k
        have hto : Gr.mask (Gr.toldTo X n (k + 1)) n = Gr.mask (Gr.toldTo X n k) n ||| (if Gr.rep X n k then Gr.mask (Gr.eqv X n k) n else 0) := by
          cases hr : Gr.rep X n k with
          | false => rw [if_neg (by simp), Nat.or_zero]; exact Gr.mask_congr fun j _ => by rw [Gr.toldTo_succ, hr]; simp
          | true => rw [if_pos rfl, Gr.mask_or]; exact Gr.mask_congr fun j _ => by rw [Gr.toldTo_succ, hr]; simp
        obtain ⟨q, hq⟩ : ∃ q, q = Gr.mask (Gr.toldTo X n k) n := ⟨_, rfl⟩
        obtain ⟨q', hq'⟩ : ∃ q', q' = Gr.mask (Gr.toldTo X n (k + 1)) n := ⟨_, rfl⟩
        rw [← hq] at hbit hq64 hto ⊢
        rw [← hq'] at hto
        have HQ' := hid hq'
        have HI := hid (KH.out wr q k hq64 (by omega))
        rw [hbit] at HI
        have hm64 := Gr.mask_lt64 (Gr.eqv X n k) hn
        have hup : Gr.up (Gr.mask (Gr.eqv X n k) n) = Gr.cls X n k := Gr.up_mask _ hn
        have HP := hid fun W hp => KP.out W k a2 c2 hp hlt
        have HPS := hid hps
        have HTO := hid hto
        have HUP := hid hup
        clear hbit hq hq' hps hto hup
        cases hr : Gr.rep X n k with
        | false =>
          rw [hr] at HI HPS HTO
          change Hid (Calls _ _ _ _ fun e w' => e = .returned (.bool true) ∧ _) at HI
          have HE : Hid (Gr.partsTo X n (k + 1) = Gr.partsTo X n k) := by show _ = _; rw [HPS.out]; simp
          have HF : Hid (q' = q) := by show _ = _; rw [HTO.out]; simp
          clear hr HPS HTO HUP
          go_wp2_with fail
          refine (HI.out).mono ?_
          rintro r w3 ⟨rfl, hb3⟩
          have O3 := hid (hO.out.below hb3)
          rw [← HE.out] at O3
          have B3 : Hid (Below w2.heap.size w2 w3) := below_tr hb.out hb3
          clear hb3 hO hb
          go_wp2_with fail
          go_roundw
          case rel => exact ⟨k + 1, by omega, by go_num, by rw [← HQ'.out, HF.out], O3, B3⟩
          case measure => simp [intOf]; omega
        | true =>
          rw [hr] at HI HPS HTO
          change Hid (Calls _ _ _ _ fun e w' => e = .returned (.bool false) ∧ _) at HI
          have HE : Hid (Gr.partsTo X n (k + 1) = Gr.partsTo X n k ++ [Gr.cls X n k]) := by show _ = _; rw [HPS.out]; simp
          obtain ⟨m, hm⟩ : ∃ m, m = Gr.mask (Gr.eqv X n k) n := ⟨_, rfl⟩
          rw [← hm] at HTO HUP HP hm64
          have hor : bits .or .u64 (q : Int) (m : Int) = (q' : Int) := by rw [u64_or_nat q m hq64 hm64, HTO.out]; simp
          clear hr HPS HTO hm
          go_wp2_with fail
          refine (HI.out).mono ?_
          rintro r w3 ⟨rfl, hb3⟩
          have B3 : Hid (Below w2.heap.size w2 w3) := below_tr hb.out hb3
          have O3 := hid (hO.out.below hb3)
          clear hb3 hO hb HI
          go_wp2_with fail
          refine (HP.out _ (P2.out.below B3.out)).mono ?_
          rintro r w4 ⟨rfl, hb4⟩
          have B4 : Hid (Below w2.heap.size w2 w4) := below_tr B3.out hb4
          have O4 := hid (O3.out.below hb4)
          clear hb4 O3 B3 HP
          go_wp2_with fail
          refine (KL.out _ m hm64 (T2.out.below B4.out)).mono ?_
          rintro r w5 ⟨v5, rfl, ho5, hb5⟩
          have B5 : Hid (Below w2.heap.size w2 w5) := below_tr B4.out hb5
          obtain ⟨S, s1, s2, s3⟩ := O4.out.below hb5
          rw [HUP.out] at ho5
          obtain ⟨a5, c5, rfl, -⟩ := ho5.at_
          obtain ⟨y, hy⟩ : ∃ y, y = (Gr.cls X n k).length := ⟨_, rfl⟩
          rw [← hy] at ho5 ⊢
          clear hy
          have N5 := hid (ho5.lower (base' := w2.heap.size) B4.out.size)
          have S3 := hid s3
          have hown5 : w5.ownsRow w2.heap.size 25 1 _ S.length (S.map id) := s1
          have hbs5 := B5.out.size
          have hsl : S.length ≤ 60 := by
            have := Gr.partsTo_len X n k
            omega
          clear hb5 O4 B4 ho5 s3
          go_wp2_with (at_builtin; refine wpList_append_own _ rfl _ _ 46 rfl w2.heap.size 25 i0 (.slice none 0 0) 1 24 Tryd.underlying46 hi hz0 hz1 hz2 rfl (by decide) _ _ _ rfl (hown5.alloc _) ⟨w5.heap.size, 0, none⟩ 1 1 [.slice a5 y c5] rfl rfl ?c1 ?c2 ?c3 ?c4 ?c5 ?_)
          case c1 => exact cell_one_new _ _ _
          case c2 =>
            intro u hu
            rw [List.mem_singleton.1 hu]; rfl
          case c3 => unfold maxLen; omega
          case c4 => omega
          case c5 => simp; omega
          intro v' w6 hown' hgrow hnil
          have O6 : Hid (OwnRows w6 w2.heap.size v' (Gr.partsTo X n (k + 1))) := by
            rw [HE.out]
            exact OwnRows.push (s1.below (bx _ _)) s2 (fun i s l h1 h2 => (S3.out i s l h1 h2).below (bx _ _)) (N5.out.below (bx _ _)) hgrow (OwnR.grows (enc := id) (by rw [s2, List.map_id]; exact hown'))
          have B6 : Hid (Below w2.heap.size w2 w6) := (B5.out.alloc hbs5 _).grown hgrow (by rw [World.size_alloc]; omega) (fun b hb => (hown5.lt b hb).1)
          clear hown' hgrow hnil hown5 B5 s1 S3 N5
          go_wp2_with fail
          go_roundw
          case rel => exact ⟨k + 1, by omega, by go_num, by rw [HQ'.out], O6, B6⟩
          case measure => simp [intOf]; omega
      · obtain rfl : k = n := by omega
        have j4 : decide ((k : Int) < (k : Int)) = false := by simp
        have HQ := hid (rfl : Gr.mask (Gr.toldTo X k k) k = Gr.mask (Gr.toldTo X k k) k)
        generalize Gr.mask (Gr.toldTo X k k) k = q at *
        go_wp2_with fail
        go_ret2
        exact ⟨_, rfl, hO.out.lower (by have := B2.out.size; omega), below_tr B2.out hb.out⟩
  · have e2 : Gr.partList n X = [] := if_neg h0
    rw [e2]
    generalize Gr.check n X = Y at *
    have j1 : (Y != 0) = true := by simpa using h0
    clear h H h0 e2
    go_enter Tryd.func21, Tryd.ntmps21
    go_wp2_with fail
    refine (HC.out).mono ?_
    rintro r w1 ⟨rfl, hb1⟩
    go_wp2_with fail
    go_ret2
    exact ⟨_, rfl, OwnRows.nil _ _, hb1⟩
end Go.Proofs.YtbgcldckgiiedacDoor.PGraph
