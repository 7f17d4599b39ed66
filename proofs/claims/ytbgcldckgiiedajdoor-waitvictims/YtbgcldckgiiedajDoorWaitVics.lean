/- quirkeep.WaitVictims, walked: it answers true, and nothing that was there has turned. Conditions: how many edges there are; the library's table is as its initialiser lays it. -/
import Derived.Test.YtbgcldckgiiedajDoorWaitVic
import Derived.Test.YtbgcldckgiiedajDoorGraphOrd
import Derived.Test.YtbgcldckgiiedajDoorGraphCon
import Derived.Test.YtbgcldckgiiedajDoorGraphEq
namespace Go.Proofs.YtbgcldckgiiedajDoor.PWait
open Go Go.RowKit PPool PGraph
set_option maxRecDepth 100000

theorem free_next {V : List Nat} {Y : List Gr.Ed} {m i j : Nat} (hx : Y[m]? = some (Gr.ed i j)) : Wa.free (Y.take (m + 1)) V = Wa.free (Y.take m) V ++ (if V.contains i || V.contains j then [] else [Gr.ed i j]) := by
  obtain ⟨h1, h2⟩ := List.getElem?_eq_some_iff.1 hx
  have e : V.any (fun k => Wa.touches k (Gr.ed i j)) = (V.contains i || V.contains j) := by
    rw [Bool.eq_iff_iff, List.any_eq_true, Bool.or_eq_true, List.contains_iff_mem, List.contains_iff_mem]
    constructor
    · rintro ⟨k, hk, ht⟩
      simp only [Wa.touches, Gr.ed, Bool.or_eq_true] at ht
      rcases ht with ht | ht <;> have ht := of_decide_eq_true ht
      · left; rw [show i = k by omega]; exact hk
      · right; rw [show j = k by omega]; exact hk
    · rintro (h | h)
      · exact ⟨i, h, by simp [Wa.touches, Gr.ed]⟩
      · exact ⟨j, h, by simp [Wa.touches, Gr.ed]⟩
  unfold Wa.free
  rw [List.take_succ_eq_append_getElem h1, h2, List.filter_append]
  congr 1
  simp only [List.filter_cons, List.filter_nil, e]
  cases V.contains i || V.contains j <;> rfl
theorem free_len (Y : List Gr.Ed) (V : List Nat) (m : Nat) : (Wa.free (Y.take m) V).length ≤ m := by
  unfold Wa.free
  exact Nat.le_trans (List.length_filter_le _ _) (by rw [List.length_take]; exact Nat.min_le_left _ _)
theorem first_vic : Wa.rise (Wa.taken 3 [⟨0, 1⟩, ⟨1, 0⟩]) = [1] := by
  rw [show Wa.taken 3 [⟨0, 1⟩, ⟨1, 0⟩] = [1] from by decide +kernel]
  simp [Wa.rise]

set_option maxHeartbeats 8000000 in
theorem vics_walk (w : World) (n : Int) (a : Option Addr) (c : Nat) (X : List Gr.Ed) (h : PgAt w a X) (hl : X.length ≤ 9223372036854775807) (hT : Tab w) :
    Calls Tryd.prog 4 #[.int .i64 n, .slice a X.length c] w fun e w' => e = .returned (.bool true) ∧ Below w.heap.size w w' := by
  have H := hid h
  have HT := hid hT
  have hE := heap_alloc_new w (.cells #[.int .i64 0, .int .i64 1, .int .i64 1, .int .i64 0] 28)
  have P1 : Hid (PgAt (w.alloc (.cells #[.int .i64 0, .int .i64 1, .int .i64 1, .int .i64 0] 28)) (some ⟨w.heap.size, 0, none⟩) [⟨0, 1⟩, ⟨1, 0⟩]) := fun j x hj => by
    refine ⟨_, _, rfl, ?_⟩
    rw [cell_of_row _ _ _ _ _ _ hE, cell_of_row _ _ _ _ _ _ hE]
    match j, hj with
    | 0, hj => cases hj; exact ⟨rfl, rfl⟩
    | 1, hj => cases hj; exact ⟨rfl, rfl⟩
    | j + 2, hj => cases hj
  have K1 := hid (victims_any (w.alloc (.cells #[.int .i64 0, .int .i64 1, .int .i64 1, .int .i64 0] 28)) 3 (some ⟨w.heap.size, 0, none⟩) 2 [⟨0, 1⟩, ⟨1, 0⟩] P1.out (by decide) (hT.below (bx _ _)))
  rw [show Gr.check 3 [⟨0, 1⟩, ⟨1, 0⟩] = 0 from by decide, first_vic] at K1
  have KE := hid fun W a1 a2 c1 c2 h1 h2 => eqNats_any W a1 a2 c1 c2 [1] [1] h1 h2 (by decide)
  rw [decide_eq_true rfl] at KE
  have KG := hid fun W hp hT => victims_any W n a c X hp hl hT
  have KN := hid hasNat_any
  have KO := hid order_any
  obtain ⟨i0, hi, hz0, hz1, hz3⟩ := info_parts edge_info
  clear h hT P1 hE
  go_enter Tryd.func4, Tryd.ntmps4
  go_wp2_with fail
  refine (K1.out).mono ?_
  rintro r w1 ⟨v1, rfl, ho1, hb1⟩
  have B1 : Hid (Below w.heap.size w w1) := below_tr (bx _ _) hb1
  obtain ⟨a1, c1, rfl, hp1, -⟩ := ho1.at_
  have P1 := hid hp1
  have PB : Hid (NatsAt (w1.alloc (.cells #[.int .i64 1] 3)) (some ⟨w1.heap.size, 0, none⟩) [1]) := fun j x hj => by
    refine ⟨_, _, rfl, ?_⟩
    rw [cell_of_row _ _ _ _ _ _ (heap_alloc_new w1 _)]
    match j, hj with
    | 0, hj => cases hj; rfl
    | j + 1, hj => cases hj
  clear hb1 ho1 hp1 K1
  go_wp2_with fail
  refine (KE.out _ a1 (some ⟨w1.heap.size, 0, none⟩) c1 1 (P1.out.below (bx _ _)) PB.out).mono ?_
  rintro r w2 ⟨rfl, hb2⟩
  have B2 : Hid (Below w.heap.size w w2) := below_tr B1.out (below_tr (bx _ _) hb2)
  clear hb2 P1 PB B1 KE
  go_wp2_with fail
  refine (KG.out _ (H.out.below B2.out) (HT.out.below B2.out)).mono ?_
  rintro r w3 ⟨v3, rfl, ho3, hb3⟩
  have B3 : Hid (Below w.heap.size w w3) := below_tr B2.out hb3
  obtain ⟨a3, c3, rfl, hp3, -⟩ := ho3.at_
  have P3 := hid hp3
  clear hb3 ho3 hp3 B2 KG
  by_cases h0 : Gr.check n X = 0
  · obtain ⟨n, rfl, hR⟩ := Right.of h0
    rw [h0]
    have hn := hR.1
    have hX2 := hR.2.1
    have HIN := hid fun x hx => hR.2.2 x hx
    have VF := hid (Wa.victims_free h0)
    have l3 : (Wa.taken (n : Int) X).length ≤ 2000 := by
      have := Wa.vic_len (n := n) X.length X []
      unfold Wa.taken
      rw [if_pos h0, Int.toNat_natCast]
      simp at this; omega
    rw [← Wa.rise_len] at l3
    have hne : Hid (Wa.taken (n : Int) X = [] ↔ (Wa.rise (Wa.taken (n : Int) X)).length = 0) := by
      show _ ↔ _
      rw [Wa.rise_len, List.length_eq_zero_iff]
    obtain ⟨V, hV⟩ : ∃ V, V = Wa.rise (Wa.taken (n : Int) X) := ⟨_, rfl⟩
    rw [← hV] at P3 VF hne l3 ⊢
    have HX : Hid (X.length ≤ 2000) := hX2
    clear h0 hR hl hV hX2
    go_wp2_with fail
    go_loopw [44, 9] (fun i vv wr => ∃ (m : Nat) (v : Value), m ≤ X.length ∧ i = .int .i64 (m : Int) ∧ v = vv ∧ Hid (OwnPg wr w3.heap.size v (Wa.free (X.take m) V)) ∧ Hid (Below w3.heap.size w3 wr)) (fun i _ _ => X.length - (intOf i).toNat)
    case atStart => exact ⟨0, _, Nat.zero_le _, rfl, rfl, by show OwnPg _ _ _ _; simp [Wa.free]; exact OwnPg.nil _ _, Below.refl _ _⟩
    case round =>
      obtain ⟨m, v, hm, rfl, rfl, hO, hb⟩ := hrel
      by_cases hlt : m < X.length
      · obtain ⟨x, hx⟩ : ∃ x, X[m]? = some x := ⟨_, List.getElem?_eq_getElem hlt⟩
        have Bw := hid (below_tr B3.out hb.out)
        obtain ⟨b, o, rfl, d1, d2⟩ := (H.out.below Bw.out) m x hx
        obtain ⟨i, j, rfl, hi1, hj1⟩ := HIN.out x (List.mem_of_getElem? hx)
        replace d1 : wr.cell? ⟨b, o + m * 2, none⟩ = some (.int .i64 (i : Int)) := d1
        replace d2 : wr.cell? ⟨b, o + m * 2 + 1, none⟩ = some (.int .i64 (j : Int)) := d2
        have m0 : (0 : Int) ≤ (m : Int) := by omega
        have m1 : (m : Int) < (X.length : Int) := by omega
        have hX2 := HX.out
        have HN := hid (free_next (V := V) hx)
        have hlen := free_len X V m
        obtain ⟨L, hL⟩ : ∃ L, L = Wa.free (X.take m) V := ⟨_, rfl⟩
        rw [← hL] at HN hO hlen
        have hbs := hb.out.size
        have OA := hid (hO.out.below (bx wr (.cells #[.int .i64 (i : Int), .int .i64 (j : Int)] 28)))
        have BA : Hid (Below w3.heap.size w3 (wr.alloc (.cells #[.int .i64 (i : Int), .int .i64 (j : Int)] 28))) := below_tr hb.out (bx _ _)
        clear hx hL hO hb
        go_wp2_with fail
        have K4 := hid (KN.out (wr.alloc (.cells #[.int .i64 (i : Int), .int .i64 (j : Int)] 28)) a3 c3 V i (P3.out.below BA.out) (by omega))
        refine (K4.out).mono ?_
        rintro r w5 ⟨rfl, hb5⟩
        obtain ⟨f0, f1⟩ := box2 hb5
        have O5 := hid (OA.out.below hb5)
        have B5 := hid (below_tr BA.out hb5)
        have s5 : wr.heap.size < w5.heap.size := by have := hb5.size; rw [World.size_alloc] at this; omega
        have hbf := hid hb5
        clear hb5 K4 OA BA d1 d2
        cases hi2 : V.contains i with
        | true =>
          have HS : Hid (Wa.free (X.take (m + 1)) V = L) := by show _ = _; rw [HN.out, hi2]; simp
          clear HN hi2
          go_wp2_with fail
          go_roundw
          case rel => exact ⟨m + 1, v, by omega, by go_num, rfl, by rw [HS.out]; exact O5, B5⟩
          case measure => simp [intOf]; omega
        | false =>
          rw [hi2, Bool.false_or] at HN
          have K6 := hid (KN.out w5 a3 c3 V j (P3.out.below B5.out) (by omega))
          clear hi2
          go_wp2_with fail
          refine (K6.out).mono ?_
          rintro r w6 ⟨rfl, hb6⟩
          obtain ⟨f2, f3⟩ := box2 (below_tr hbf.out hb6)
          have O6 := hid (O5.out.below hb6)
          have B6 := hid (below_tr B5.out hb6)
          have s6 : w3.heap.size ≤ w6.heap.size := B6.out.size
          clear hb6 K6 O5 B5 f0 f1 hbf
          cases hj2 : V.contains j with
          | true =>
            have HS : Hid (Wa.free (X.take (m + 1)) V = L) := by show _ = _; rw [HN.out, hj2]; simp
            clear HN hj2
            go_wp2_with fail
            go_roundw
            case rel => exact ⟨m + 1, v, by omega, by go_num, rfl, by rw [HS.out]; exact O6, B6⟩
            case measure => simp [intOf]; omega
          | false =>
            have HS : Hid (Wa.free (X.take (m + 1)) V = L ++ [Gr.ed i j]) := by show _ = _; rw [HN.out, hj2]; simp
            have O7 : w6.ownsRow w3.heap.size 28 2 v L.length (L.flatMap sc) := O6.out
            clear HN hj2 O6
            go_wp2_with (at_builtin; refine wpList_append_own _ rfl _ _ 22 rfl w3.heap.size 28 i0 (.agg #[.int .i64 0, .int .i64 0]) 2 16 Tryd.underlying22 hi hz0 hz1 hz3 rfl (by decide) _ _ _ rfl (O7.alloc _) ⟨w6.heap.size, 0, none⟩ 1 1 (sc (Gr.ed i j)) rfl rfl ?c1 ?c2 ?c3 ?c4 ?c5 ?_)
            case c1 =>
              intro q u hu
              rw [Addr.add_mid]
              exact (cell_of_row _ _ _ _ _ _ (heap_alloc_new w6 _)).trans (by simpa [sc, Gr.ed] using hu)
            case c2 => exact sc_one _
            case c3 => unfold maxLen; omega
            case c4 => omega
            case c5 => simp; omega
            intro v' w7 ho7 hg7 hnil7
            have A7 : Hid (OwnPg w7 w3.heap.size v' (Wa.free (X.take (m + 1)) V)) := by
              rw [HS.out]; exact OwnPg.grows ho7
            have B7 : Hid (Below w3.heap.size w3 w7) := (B6.out.alloc s6 _).grown hg7 (by rw [World.size_alloc]; omega) (fun b hb => (O7.lt b hb).1)
            clear ho7 hg7 hnil7 O7 B6 HS f2 f3
            go_wp2_with fail
            go_roundw
            case rel => exact ⟨m + 1, _, by omega, by go_num, rfl, A7, B7⟩
            case measure => simp [intOf]; omega
      · obtain rfl : m = X.length := by omega
        have j3 : decide ((X.length : Int) < (X.length : Int)) = false := by simp
        rw [List.take_length] at hO
        have B4 := hid (below_tr B3.out hb.out)
        have hlf : (Wa.free X V).length ≤ 2000 := Nat.le_trans (List.length_filter_le _ _) HX.out
        obtain ⟨a4, c4, rfl, hp4, -⟩ := hO.out.at_
        have K4 := hid (KO.out wr (n : Int) a4 c4 (Wa.free X V) hp4 (by omega))
        have K5 := hid fun W hp => KO.out W (n : Int) a c X hp (by have := HX.out; omega)
        rw [VF.out.1] at K4
        have VG := hid (VF.out.2.trans hne.out)
        generalize Gr.ordCode (n : Int) X = g at *
        generalize Gr.ordList (n : Int) (Wa.free X V) = L1 at *
        generalize Wa.free X V = L2 at *
        clear hO hb hp4 VF hne P3
        go_wp2_with fail
        refine (K4.out).mono ?_
        rintro r w5 ⟨v5, rfl, ho5, hb5⟩
        have B5 := hid (below_tr B4.out hb5)
        obtain ⟨a5, c5, rfl, -⟩ := ho5.at_
        clear hb5 K4 ho5 B4
        go_wp2_with fail
        refine (K5.out _ (H.out.below B5.out)).mono ?_
        rintro r w6 ⟨v6, rfl, ho6, hb6⟩
        have B6 := hid (below_tr B5.out hb6)
        obtain ⟨a6, c6, rfl, -⟩ := ho6.at_
        clear hb6 K5 ho6 B5
        by_cases hg : g = 0
        · have q1 : (g == 0) = true := by simp [hg]
          have q2 : V.length = 0 := VG.out.1 hg
          have q3 : ((V.length : Int) == 0) = true := by rw [q2]; rfl
          clear VG hg q2
          go_wp2_with fail
          go_ret
          exact ⟨rfl, B6.out⟩
        · have q1 : (g == 0) = false := by simpa using hg
          have q2 : ¬ V.length = 0 := fun e => hg (VG.out.2 e)
          have q3 : ((V.length : Int) == 0) = false := by rw [beq_eq_false_iff_ne]; omega
          clear VG hg q2
          go_wp2_with fail
          go_ret
          exact ⟨rfl, B6.out⟩
  · have e2 : Wa.taken n X = [] := if_neg h0
    rw [e2, Wa.rise_nil]
    generalize Gr.check n X = Y at *
    have g1 : (Y != 0) = true := by simpa using h0
    clear h0 e2 P3 H HT
    go_wp2_with fail
    go_ret
    exact ⟨rfl, B3.out⟩
end Go.Proofs.YtbgcldckgiiedajDoor.PWait
