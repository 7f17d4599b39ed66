/- quirkeep.WaitDead, walked: it answers true, and nothing that was there has turned. Conditions: how many edges there are; the library's table is as its initialiser lays it. -/
import Derived.Test.YtbgcldckgiiedajDoorWaitDed
import Derived.Test.YtbgcldckgiiedajDoorGraphWay
import Derived.Test.YtbgcldckgiiedajDoorGraphCon
import Derived.Test.YtbgcldckgiiedajDoorGraphEq
namespace Go.Proofs.YtbgcldckgiiedajDoor.PWait
open Go Go.RowKit PPool PGraph
set_option maxRecDepth 100000

theorem filter_has {p : Nat → Bool} {n k : Nat} (hk : k < n) : ((List.range n).filter p).contains k = p k := by
  rw [Bool.eq_iff_iff]
  simp [hk]
/-- Does k come to itself, or to one of the first q that comes to itself? -/
def loopTo (X : List Gr.Ed) (n k : Nat) (L : List Nat) (q : Nat) : Bool := Gr.W X n k k || (L.take q).any (fun i => Gr.W X n i i)
theorem loopTo_none (X : List Gr.Ed) (n k : Nat) (L : List Nat) : loopTo X n k L 0 = Gr.W X n k k := by simp [loopTo]
theorem loopTo_next {X : List Gr.Ed} {n k : Nat} {L : List Nat} {q x : Nat} (h : L[q]? = some x) : loopTo X n k L (q + 1) = (loopTo X n k L q || Gr.W X n x x) := by
  obtain ⟨h1, h2⟩ := List.getElem?_eq_some_iff.1 h
  unfold loopTo
  rw [List.take_succ_eq_append_getElem h1, h2, List.any_append]
  simp [Bool.or_assoc]
theorem loopTo_all (X : List Gr.Ed) (n k : Nat) : loopTo X n k ((List.range n).filter (Gr.W X n k)) ((List.range n).filter (Gr.W X n k)).length = Wa.lost X n k := by
  unfold loopTo Wa.lost
  rw [List.take_length, List.any_filter]

set_option maxHeartbeats 8000000 in
theorem dead_walk (w : World) (n : Int) (a : Option Addr) (c : Nat) (X : List Gr.Ed) (h : PgAt w a X) (hl : X.length ≤ 9223372036854775807) (hT : Tab w) :
    Calls Tryd.prog 3 #[.int .i64 n, .slice a X.length c] w fun e w' => e = .returned (.bool true) ∧ Below w.heap.size w w' := by
  have H := hid h
  have HT := hid hT
  have hE := heap_alloc_new w (.cells #[.int .i64 0, .int .i64 1, .int .i64 1, .int .i64 0, .int .i64 2, .int .i64 0] 28)
  have P1 : Hid (PgAt (w.alloc (.cells #[.int .i64 0, .int .i64 1, .int .i64 1, .int .i64 0, .int .i64 2, .int .i64 0] 28)) (some ⟨w.heap.size, 0, none⟩) [⟨0, 1⟩, ⟨1, 0⟩, ⟨2, 0⟩]) := fun j x hj => by
    refine ⟨_, _, rfl, ?_⟩
    rw [cell_of_row _ _ _ _ _ _ hE, cell_of_row _ _ _ _ _ _ hE]
    match j, hj with
    | 0, hj => cases hj; exact ⟨rfl, rfl⟩
    | 1, hj => cases hj; exact ⟨rfl, rfl⟩
    | 2, hj => cases hj; exact ⟨rfl, rfl⟩
    | j + 3, hj => cases hj
  have K1 := hid (dead_any (w.alloc (.cells #[.int .i64 0, .int .i64 1, .int .i64 1, .int .i64 0, .int .i64 2, .int .i64 0] 28)) 4 (some ⟨w.heap.size, 0, none⟩) 3 [⟨0, 1⟩, ⟨1, 0⟩, ⟨2, 0⟩] P1.out (by decide))
  rw [show Gr.check 4 [⟨0, 1⟩, ⟨1, 0⟩, ⟨2, 0⟩] = 0 from by decide, show Wa.dead 4 [⟨0, 1⟩, ⟨1, 0⟩, ⟨2, 0⟩] = [0, 1, 2] from by decide +kernel] at K1
  have KE := hid fun W a1 a2 c1 c2 h1 h2 => eqNats_any W a1 a2 c1 c2 [0, 1, 2] [0, 1, 2] h1 h2 (by decide)
  rw [decide_eq_true rfl] at KE
  have KG := hid fun W hp => dead_any W n a c X hp hl
  have KW := hid fun W k hp hT => way_any W n a c X k hp hl hT
  have KN := hid hasNat_any
  clear h hT P1 hE
  go_enter Tryd.func3, Tryd.ntmps3
  go_wp2_with fail
  refine (K1.out).mono ?_
  rintro r w1 ⟨v1, rfl, ho1, hb1⟩
  have B1 : Hid (Below w.heap.size w w1) := below_tr (bx _ _) hb1
  obtain ⟨a1, c1, rfl, hp1, -⟩ := ho1.at_
  have P1 := hid hp1
  have PB : Hid (NatsAt (w1.alloc (.cells #[.int .i64 0, .int .i64 1, .int .i64 2] 3)) (some ⟨w1.heap.size, 0, none⟩) [0, 1, 2]) := fun j x hj => by
    refine ⟨_, _, rfl, ?_⟩
    rw [cell_of_row _ _ _ _ _ _ (heap_alloc_new w1 _)]
    match j, hj with
    | 0, hj => cases hj; rfl
    | 1, hj => cases hj; rfl
    | 2, hj => cases hj; rfl
    | j + 3, hj => cases hj
  clear hb1 ho1 hp1 K1
  go_wp2_with fail
  refine (KE.out _ a1 (some ⟨w1.heap.size, 0, none⟩) c1 3 (P1.out.below (bx _ _)) PB.out).mono ?_
  rintro r w2 ⟨rfl, hb2⟩
  have B2 : Hid (Below w.heap.size w w2) := below_tr B1.out (below_tr (bx _ _) hb2)
  clear hb2 P1 PB B1 KE
  go_wp2_with fail
  refine (KG.out _ (H.out.below B2.out)).mono ?_
  rintro r w3 ⟨v3, rfl, ho3, hb3⟩
  have B3 : Hid (Below w.heap.size w w3) := below_tr B2.out hb3
  obtain ⟨a3, c3, rfl, hp3, -⟩ := ho3.at_
  have P3 := hid hp3
  clear hb3 ho3 hp3 B2 KG
  by_cases h0 : Gr.check n X = 0
  · obtain ⟨n, rfl, hR⟩ := Right.of h0
    have e2 : Wa.dead (n : Int) X = (List.range n).filter (Wa.lost X n) := by unfold Wa.dead; rw [if_pos h0, Int.toNat_natCast]
    rw [e2] at P3
    rw [e2, h0]
    have hn := hR.1
    have l2 := Gr.filter_len (Wa.lost X n) n
    have HS := hid fun k hk => Gr.way_self h0 (k := k) hk
    have HH := hid fun k (hk : k < n) => filter_has (p := Wa.lost X n) hk
    have HD : Hid (((List.range n).filter (Wa.lost X n)).length ≤ 9223372036854775807) := by show _ ≤ _; omega
    generalize (List.range n).filter (Wa.lost X n) = L2 at *
    clear h0 e2 hR l2
    go_wp2_with fail
    go_loopw [45] (fun i wr => ∃ k : Nat, k ≤ n ∧ i = .int .i64 (k : Int) ∧ Hid (Below w3.heap.size w3 wr)) (fun i _ => n - (intOf i).toNat)
    case atStart => exact ⟨0, Nat.zero_le _, rfl, Below.refl _ _⟩
    case round =>
      obtain ⟨k, hk, rfl, hb⟩ := hrel
      by_cases hlk : k < n
      · have k0 : (0 : Int) ≤ (k : Int) := by omega
        have k1 : (k : Int) < (n : Int) := by omega
        have Bk := hid (below_tr B3.out hb.out)
        have K2 := hid (KW.out wr (k : Int) (H.out.below Bk.out) (HT.out.below Bk.out))
        obtain ⟨e3, e4⟩ := HS.out k hlk
        rw [e3, e4] at K2
        have KL := hid (HH.out k hlk)
        have LA := hid (loopTo_all X n k)
        have FH := hid (filter_has (p := Gr.W X n k) hlk)
        have FN : Hid (∀ x ∈ (List.range n).filter (Gr.W X n k), x < n) := fun x hx => List.mem_range.1 (List.mem_filter.1 hx).1
        have hfl := Gr.filter_len (Gr.W X n k) n
        obtain ⟨L, hL⟩ : ∃ L, L = (List.range n).filter (Gr.W X n k) := ⟨_, rfl⟩
        rw [← hL] at K2 LA FH FN hfl
        clear e3 e4 hL Bk
        go_wp2_with fail
        refine (K2.out).mono ?_
        rintro r w5 ⟨v5, rfl, ho5, hb5⟩
        have B5 := hid (below_tr hb.out hb5)
        obtain ⟨a5, c5, rfl, hp5, -⟩ := ho5.at_
        have P5 := hid hp5
        have K3 := hid (KN.out w5 a5 c5 L k hp5 (by omega))
        clear hb5 ho5 hp5 K2 hb
        go_wp2_with fail
        refine (K3.out).mono ?_
        rintro r w6 ⟨rfl, hb6⟩
        have B6 := hid (below_tr B5.out hb6)
        have P6 := hid (P5.out.below hb6)
        have R0 : Hid (L.contains k = loopTo X n k L 0) := FH.out.trans (loopTo_none X n k L).symm
        obtain ⟨b0, hb0⟩ : ∃ b0, b0 = L.contains k := ⟨_, rfl⟩
        rw [← hb0] at R0 ⊢
        clear hb6 K3 B5 P5 FH hb0
        go_wp2_with fail
        go_loopw [60, 12] (fun i r wr => ∃ q : Nat, q ≤ L.length ∧ i = .int .i64 (q : Int) ∧ r = .bool (loopTo X n k L q) ∧ Hid (NatsAt wr a5 L) ∧ Hid (Below w3.heap.size w3 wr)) (fun i _ _ => L.length - (intOf i).toNat)
        case atStart => exact ⟨0, Nat.zero_le _, rfl, by rw [← R0.out], P6, B6⟩
        case round =>
          clear P6 B6 R0
          obtain ⟨q, hq, rfl, rfl, hP, hb⟩ := hrel
          by_cases hlq : q < L.length
          · obtain ⟨x, hx⟩ : ∃ x, L[q]? = some x := ⟨_, List.getElem?_eq_getElem hlq⟩
            obtain ⟨b5, o5, rfl, d5⟩ := hP.out q x hx
            have hxn := FN.out x (List.mem_of_getElem? hx)
            have q0 : (0 : Int) ≤ (q : Int) := by omega
            have q1 : (q : Int) < (L.length : Int) := by omega
            have HNX := hid (loopTo_next (X := X) (n := n) (k := k) hx)
            have Bk := hid (below_tr B3.out hb.out)
            have K2 := hid (KW.out wr (x : Int) (H.out.below Bk.out) (HT.out.below Bk.out))
            obtain ⟨e3, e4⟩ := HS.out x hxn
            rw [e3, e4] at K2
            have FX := hid (filter_has (p := Gr.W X n x) hxn)
            have hfx := Gr.filter_len (Gr.W X n x) n
            obtain ⟨Lx, hLx⟩ : ∃ Lx, Lx = (List.range n).filter (Gr.W X n x) := ⟨_, rfl⟩
            rw [← hLx] at K2 FX hfx
            have dn : nc x = .int .i64 (x : Int) := rfl
            obtain ⟨r1, hr1⟩ : ∃ r1, r1 = loopTo X n k L (q + 1) := ⟨_, rfl⟩
            rw [← hr1] at HNX
            have HR1 := hid hr1
            obtain ⟨b1, hb1⟩ : ∃ b1, b1 = loopTo X n k L q := ⟨_, rfl⟩
            rw [← hb1] at HNX ⊢
            clear e3 e4 hLx hx Bk hxn hr1 hb1
            go_wp2_with fail
            refine (K2.out).mono ?_
            rintro r w7 ⟨v7, rfl, ho7, hb7⟩
            have B7 := hid (below_tr hb.out hb7)
            have P7 := hid (hP.out.below hb7)
            obtain ⟨a7, c7, rfl, hp7, -⟩ := ho7.at_
            have K3 := hid (KN.out w7 a7 c7 Lx x hp7 (by omega))
            clear hb7 ho7 hp7 K2 hb hP d5
            cases b1 with
            | true =>
              have E1 : Hid (true = r1) := by show _ = _; rw [HNX.out]; rfl
              clear HNX K3
              go_wp2_with fail
              go_roundw
              case rel => exact ⟨q + 1, by omega, by go_num, by rw [← HR1.out, ← E1.out], P7, B7⟩
              case measure => simp [intOf]; omega
            | false =>
              have E1 : Hid (Lx.contains x = r1) := by show _ = _; rw [HNX.out, FX.out]; rfl
              clear HNX FX
              go_wp2_with fail
              refine (K3.out).mono ?_
              rintro r w8 ⟨rfl, hb8⟩
              have B8 := hid (below_tr B7.out hb8)
              have P8 := hid (P7.out.below hb8)
              clear hb8 K3 B7 P7
              rw [E1.out]
              go_wp2_with fail
              go_roundw
              case rel => exact ⟨q + 1, by omega, by go_num, by rw [← HR1.out], P8, B8⟩
              case measure => simp [intOf]; omega
          · obtain rfl : q = L.length := by omega
            have j4 : decide ((L.length : Int) < (L.length : Int)) = false := by simp
            have K4 := hid (KN.out wr a3 c3 L2 k (P3.out.below hb.out) HD.out)
            rw [LA.out, ← KL.out]
            generalize L2.contains k = bb at *
            have j5 : (bb != bb) = false := by simp
            clear LA KL hP FN
            go_wp2_with fail
            refine (K4.out).mono ?_
            rintro r w9 ⟨rfl, hb9⟩
            have B9 := hid (below_tr hb.out hb9)
            clear hb9 K4 hb
            go_wp2_with fail
            go_roundw
            case rel => exact ⟨k + 1, by omega, by go_num, B9⟩
            case measure => simp [intOf]; omega
      · obtain rfl : k = n := by omega
        have j4 : decide ((k : Int) < (k : Int)) = false := by simp
        have B9 := hid (below_tr B3.out hb.out)
        clear hb
        go_wp2_with fail
        go_ret
        exact ⟨rfl, B9.out⟩
  · have e2 : Wa.dead n X = [] := if_neg h0
    rw [e2]
    generalize Gr.check n X = Y at *
    have g1 : (Y != 0) = true := by simpa using h0
    clear h0 e2 P3 H HT
    go_wp2_with fail
    go_ret
    exact ⟨rfl, B3.out⟩
end Go.Proofs.YtbgcldckgiiedajDoor.PWait
