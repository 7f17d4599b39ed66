/- quirkeep.GraphParts, walked: it answers true, and nothing that was there has turned. Conditions: how many edges there are; the library's table is as its initialiser lays it. -/
import Derived.Test.YtfalojjnhlchmahDoorGraphPrt
import Derived.Test.YtfalojjnhlchmahDoorGraphCon
import Derived.Test.YtfalojjnhlchmahDoorGraphZero
namespace Go.Proofs.YtfalojjnhlchmahDoor.PGraph
open Go Go.RowKit PPool
set_option maxRecDepth 100000

set_option maxHeartbeats 8000000 in
theorem parts_walk (w : World) (n : Int) (a : Option Addr) (c : Nat) (X : List Gr.Ed) (h : PgAt w a X) (hl : X.length ≤ 9223372036854775807) (hT : Tab w) :
    Calls Tryd.prog 4 #[.int .i64 n, .slice a X.length c] w fun e w' => e = .returned (.bool true) ∧ Below w.heap.size w w' := by
  have H := hid h
  have HT := hid hT
  have hE := heap_alloc_new w (.cells #[.int .i64 2, .int .i64 0, .int .i64 0, .int .i64 2] 28)
  have P1 : Hid (PgAt (w.alloc (.cells #[.int .i64 2, .int .i64 0, .int .i64 0, .int .i64 2] 28)) (some ⟨w.heap.size, 0, none⟩) [⟨2, 0⟩, ⟨0, 2⟩]) := fun j x hj => by
    refine ⟨_, _, rfl, ?_⟩
    rw [cell_of_row _ _ _ _ _ _ hE, cell_of_row _ _ _ _ _ _ hE]
    match j, hj with
    | 0, hj => cases hj; exact ⟨rfl, rfl⟩
    | 1, hj => cases hj; exact ⟨rfl, rfl⟩
    | j + 2, hj => cases hj
  have K1 := hid (parts_any (w.alloc (.cells #[.int .i64 2, .int .i64 0, .int .i64 0, .int .i64 2] 28)) 3 (some ⟨w.heap.size, 0, none⟩) 2 [⟨2, 0⟩, ⟨0, 2⟩] P1.out (by decide) (hT.below (bx _ _)))
  rw [show Gr.check 3 [⟨2, 0⟩, ⟨0, 2⟩] = 0 from by decide, show Gr.partList 3 [⟨2, 0⟩, ⟨0, 2⟩] = [[0, 2], [1]] from by decide +kernel] at K1
  have KE := hid fun W a1 a2 c1 c2 h1 h2 => eqNats_any W a1 a2 c1 c2 [0, 2] [0, 2] h1 h2 (by decide)
  have KG := hid fun W hp hT => parts_any W n a c X hp hl hT
  have KW := hid fun W k hp hT => way_any W n a c X k hp hl hT
  clear h hT P1 hE
  go_enter Tryd.func4, Tryd.ntmps4
  go_wp2_with fail
  refine (K1.out).mono ?_
  rintro r w1 ⟨v1, rfl, ho1, hb1⟩
  have B1 : Hid (Below w.heap.size w w1) := below_tr (bx _ _) hb1
  obtain ⟨a1, c1, rfl, hp1⟩ := ho1.at_
  obtain ⟨b1, o1, a1', c1', rfl, d1, p1⟩ := hp1 0 [0, 2] rfl
  rw [Nat.add_zero] at d1
  have P1 := hid p1
  have PB : Hid (NatsAt (w1.alloc (.cells #[.int .i64 0, .int .i64 2] 3)) (some ⟨w1.heap.size, 0, none⟩) [0, 2]) := fun j x hj => by
    refine ⟨_, _, rfl, ?_⟩
    rw [cell_of_row _ _ _ _ _ _ (heap_alloc_new w1 _)]
    match j, hj with
    | 0, hj => cases hj; rfl
    | 1, hj => cases hj; rfl
    | j + 2, hj => cases hj
  clear hb1 ho1 hp1 K1 p1
  go_wp2_with fail
  refine (KE.out _ a1' (some ⟨w1.heap.size, 0, none⟩) c1' 2 (P1.out.below (bx _ _)) PB.out).mono ?_
  rintro r w2 ⟨rfl, hb2⟩
  have B2 : Hid (Below w.heap.size w w2) := below_tr B1.out (below_tr (bx _ _) hb2)
  clear hb2 P1 PB B1 KE d1
  go_wp2_with fail
  refine (KG.out _ (H.out.below B2.out) (HT.out.below B2.out)).mono ?_
  rintro r w3 ⟨v3, rfl, ho3, hb3⟩
  have B3 : Hid (Below w.heap.size w w3) := below_tr B2.out hb3
  obtain ⟨a3, c3, rfl, hp3⟩ := ho3.at_
  have P3 := hid hp3
  clear hb3 ho3 hp3 B2 KG
  by_cases h0 : Gr.check n X = 0
  · obtain ⟨n, rfl, hR⟩ := Right.of h0
    have e2 : Gr.partList (n : Int) X = Gr.parts X n := by unfold Gr.partList; rw [if_pos h0, Int.toNat_natCast]
    rw [e2] at P3
    rw [e2, h0]
    have HR := hid hR
    have hn := hR.1
    have H0 := hid h0
    have hmk := run_make_zeros n (by omega)
    have OM := hid (made_zeros w3 n (by unfold maxLen; omega))
    obtain ⟨M, hM⟩ : ∃ M, M = madeCells #[Value.int .i64 0] (n * 1) := ⟨_, rfl⟩
    rw [← hM] at hmk OM
    have hLn := Gr.parts_length X n
    have hFn := Gr.parts_count X n
    have HONE := hid (fun (i i' : Nat) (l l' : List Nat) (k : Nat) => @Gr.parts_one X n i i' l l' k)
    have HMEM := hid (fun (i : Nat) (l : List Nat) => @Gr.part_mem X n i l)
    obtain ⟨L, hL⟩ : ∃ L, L = Gr.parts X n := ⟨_, rfl⟩
    rw [← hL] at P3 hLn hFn HONE HMEM ⊢
    have HL := hid hL
    clear h0 e2 hR hM hL
    go_wp2_with fail
    go_loopw [59, 10] (fun i s wr => ∃ (i' : Nat) (A : List Nat), i' ≤ L.length ∧ i = .int .i64 (i' : Int) ∧ s = .int .i64 (((L.take i').flatten.length : Nat) : Int) ∧ A.length = n ∧ Hid (Gr.Lay2 L i' 0 A) ∧ Hid (OwnNats wr w3.heap.size (.slice (some ⟨w3.heap.size, 0, none⟩) n n) A) ∧ Hid (Below w3.heap.size w3 wr)) (fun i _ _ => L.length - (intOf i).toNat)
    case atStart => exact ⟨0, List.replicate n 0, Nat.zero_le _, rfl, by simp, by simp, fun i' j' l k _ _ h => by omega, OM, bx _ _⟩
    case round =>
      obtain ⟨i, A, hi, rfl, rfl, hAl, hA, hO, hb⟩ := hrel
      have hfi := Gr.flat_le (L := L) i
      by_cases hlt : i < L.length
      · obtain ⟨l, hl'⟩ : ∃ l, L[i]? = some l := ⟨_, List.getElem?_eq_getElem hlt⟩
        obtain ⟨b3, o3, a4, c4, rfl, d3', p4⟩ := P3.out i l hl'
        have d3 := keep1 hb.out d3'
        have hfx := Gr.flat_next hl'
        have hfi2 := Gr.flat_le (L := L) (i + 1)
        have i0 : (0 : Int) ≤ (i : Int) := by omega
        have i1 : (i : Int) < (L.length : Int) := by omega
        have HLI := hid hl'
        have P4 := hid p4
        obtain ⟨m, hm⟩ : ∃ m, m = (L.take i).flatten.length := ⟨_, rfl⟩
        rw [← hm] at hfi hfx ⊢
        have hm1 : m + l.length ≤ 60 := by omega
        have HFX := hid hfx
        clear hl' p4 hm hfx
        go_wp2_with fail
        go_loopw [66, 10] (fun j s wr => ∃ (j' : Nat) (A : List Nat), j' ≤ l.length ∧ j = .int .i64 (j' : Int) ∧ s = .int .i64 ((m + j' : Nat) : Int) ∧ A.length = n ∧ Hid (Gr.Lay2 L i j' A) ∧ Hid (OwnNats wr w3.heap.size (.slice (some ⟨w3.heap.size, 0, none⟩) n n) A) ∧ Hid (Below w3.heap.size w3 wr)) (fun j _ _ => l.length - (intOf j).toNat)
        case atStart => exact ⟨0, A, Nat.zero_le _, rfl, rfl, hAl, hA, hO, hb⟩
        case round =>
          clear hA hO hb hAl d3 d3'
          obtain ⟨j, A, hj, rfl, rfl, hAl, hA, hO, hb⟩ := hrel
          by_cases hlj : j < l.length
          · obtain ⟨x, hx⟩ : ∃ x, l[j]? = some x := ⟨_, List.getElem?_eq_getElem hlj⟩
            obtain ⟨b5, o5, rfl, d5⟩ := (P4.out.below hb.out) j x hx
            have hxn := HMEM.out i l HLI.out x (List.mem_of_getElem? hx)
            have j0 : (0 : Int) ≤ (j : Int) := by omega
            have j1 : (j : Int) < (l.length : Int) := by omega
            have x0 : decide ((x : Int) < 0) = false := by simp
            have x1 : decide ((n : Int) ≤ (x : Int)) = false := by simp; omega
            have x2 : (0 : Int) ≤ (x : Int) := by omega
            have x3 : (x : Int) < (n : Int) := by omega
            have NA := hid (hA.out.next HONE.out HLI.out hx (by omega))
            have hfz := hO.out.fz x
            obtain ⟨y, hy⟩ : ∃ y, A[x]? = some y := ⟨_, List.getElem?_eq_getElem (by omega)⟩
            have c5 := hO.out.cell hy
            have hd : nc x = .int .i64 (x : Int) := rfl
            have hmj : ((m + j : Nat) : Int) ≤ 60 := by omega
            have e1 : IntKind.i64.wrap (((m + j : Nat) : Int) + 1) = ((m + (j + 1) : Nat) : Int) := by rw [IntWalk.i64_in _ ⟨by omega, by omega⟩]; omega
            have e2 : wrap64 (((m + j : Nat) : Int) + 1) = ((m + (j + 1) : Nat) : Int) := by rw [← IntWalk.i64_left]; exact e1
            clear hx hA hy
            obtain ⟨m1, hm2⟩ : ∃ m1, m1 = m + j := ⟨_, rfl⟩
            obtain ⟨m2, hm3⟩ : ∃ m2, m2 = m + (j + 1) := ⟨_, rfl⟩
            rw [← hm2] at e1 e2 hmj ⊢
            rw [← hm3] at e1 e2
            go_wp2_with fail
            have O5 : Hid (OwnNats (wr.setCell ⟨w3.heap.size, x, none⟩ (nc i)) w3.heap.size (.slice (some ⟨w3.heap.size, 0, none⟩) n n) (A.set x i)) := hO.out.set x i
            have B5 : Hid (Below w3.heap.size w3 (wr.setCell ⟨w3.heap.size, x, none⟩ (nc i))) := hb.out.setCell (p := ⟨w3.heap.size, x, none⟩) (Nat.le_refl _) _
            clear hO hb c5 hfz d5
            go_roundw
            case rel => exact ⟨j + 1, A.set x i, by omega, by go_num, by first | (congr 1; omega) | go_num, by rw [List.length_set]; exact hAl, NA, O5, B5⟩
            case measure => simp [intOf]; omega
          · obtain rfl : j = l.length := by omega
            have j3 : decide ((l.length : Int) < (l.length : Int)) = false := by simp
            have NA := hid (hA.out.row HLI.out)
            obtain ⟨m2, hm3⟩ : ∃ m2, m2 = m + l.length := ⟨_, rfl⟩
            rw [← hm3] at HFX ⊢
            clear hA
            go_wp2_with fail
            go_roundw
            case rel => exact ⟨i + 1, A, by omega, by go_num, by rw [HFX.out], hAl, NA, hO, hb⟩
            case measure => simp [intOf]; omega
      · obtain rfl : i = L.length := by omega
        have j3 : decide ((L.length : Int) < (L.length : Int)) = false := by simp
        rw [List.take_length, hFn]
        have HA : Hid (Gr.Lay2 (Gr.parts X n) (Gr.parts X n).length 0 A) := by rw [← HL.out]; exact hA.out
        have W0 := hid (below_tr B3.out hb.out)
        have O0 := hid hO.out
        obtain ⟨w4, hw4⟩ : ∃ w4, w4 = wr := ⟨_, rfl⟩
        rw [← hw4] at W0 O0 ⊢
        clear hA hO hb hw4 P3 HONE HMEM HL hFn hfi hLn OM hmk B3
        go_wp2_with fail
        go_loopw [86] (fun i wr => ∃ p : Nat, p ≤ n ∧ i = .int .i64 (p : Int) ∧ Hid (Below w4.heap.size w4 wr)) (fun i _ => n - (intOf i).toNat)
        case atStart => exact ⟨0, Nat.zero_le _, rfl, Below.refl _ _⟩
        case round =>
          obtain ⟨p, hp, rfl, hb⟩ := hrel
          by_cases hlp : p < n
          · have p0 : (0 : Int) ≤ (p : Int) := by omega
            have p1 : (p : Int) < (n : Int) := by omega
            have hbw : Below w.heap.size w wr := below_tr W0.out hb.out
            have HK := hid (KW.out wr (p : Int) (H.out.below hbw) (HT.out.below hbw))
            obtain ⟨e1, e2⟩ := Gr.way_self H0.out hlp
            rw [e1, e2] at HK
            have hfl : ((List.range n).filter (Gr.W X n p)).length ≤ 9223372036854775807 := by
              have := List.length_filter_le (Gr.W X n p) (List.range n)
              rw [List.length_range] at this
              omega
            have hhas := hid fun q (hq : q < n) => Gr.way_has (X := X) (k := p) (j := q) hq
            generalize (List.range n).filter (Gr.W X n p) = LP at *
            have KC := hid fun W q a' c' hp => hasNat_any W a' c' LP q hp hfl
            clear e1 e2 hfl hbw
            go_wp2_with fail
            refine (HK.out).mono ?_
            rintro r w5 ⟨v5, rfl, ho5, hb5⟩
            have B5 : Hid (Below w4.heap.size w4 w5) := below_tr hb.out hb5
            obtain ⟨a5, c5, rfl, hp5, -⟩ := ho5.at_
            have P5 := hid hp5
            clear hb5 ho5 hp5 HK hb
            go_wp2_with fail
            go_loopw [97] (fun i wr => ∃ q : Nat, q ≤ n ∧ i = .int .i64 (q : Int) ∧ Hid (Below w5.heap.size w5 wr)) (fun i _ => n - (intOf i).toNat)
            case atStart => exact ⟨0, Nat.zero_le _, rfl, Below.refl _ _⟩
            case round =>
              obtain ⟨q, hq, rfl, hb⟩ := hrel
              by_cases hlq : q < n
              · have q0 : (0 : Int) ≤ (q : Int) := by omega
                have q1 : (q : Int) < (n : Int) := by omega
                have hbv : Below w4.heap.size w4 wr := below_tr B5.out hb.out
                have hbw : Below w.heap.size w wr := below_tr W0.out hbv
                have HK := hid (KW.out wr (q : Int) (H.out.below hbw) (HT.out.below hbw))
                obtain ⟨e1, e2⟩ := Gr.way_self H0.out hlq
                rw [e1, e2] at HK
                have hfl : ((List.range n).filter (Gr.W X n q)).length ≤ 9223372036854775807 := by
                  have := List.length_filter_le (Gr.W X n q) (List.range n)
                  rw [List.length_range] at this
                  omega
                have hh2 := Gr.way_has (X := X) (k := q) (j := p) hlp
                generalize (List.range n).filter (Gr.W X n q) = LQ at *
                have KD := hid fun W a' c' hp => hasNat_any W a' c' LQ p hp hfl
                have KC2 := hid fun W hp => KC.out W q a5 c5 hp
                rw [hhas.out q hlq] at KC2
                rw [hh2] at KD
                obtain ⟨ip, iq, f1, f2, f3⟩ := Gr.laid_eqv HA.out hlp hlq
                have OQ := hid fun W (hW : Below w5.heap.size w5 W) => (O0.out.below (below_tr B5.out hW))
                have heq : ((ip : Int) == (iq : Int)) = Gr.eqv X n p q := by rw [f3, Bool.eq_iff_iff, beq_iff_eq, decide_eq_true_eq]; exact ⟨fun h => Int.ofNat.inj h, fun h => by rw [h]⟩
                unfold Gr.eqv at heq
                clear e1 e2 hfl hbw hh2 f3 hbv
                go_wp2_with fail
                refine (HK.out).mono ?_
                rintro r w6 ⟨v6, rfl, ho6, hb6⟩
                have B6 : Hid (Below w5.heap.size w5 w6) := below_tr hb.out hb6
                obtain ⟨a6, c6, rfl, hp6, -⟩ := ho6.at_
                have P6 := hid hp6
                clear hb6 ho6 hp6 HK hb
                by_cases hpq : p = q
                · have g1 : ((p : Int) == (q : Int)) = true := by rw [hpq]; simp
                  have g2 : ((ip : Int) == (iq : Int)) = true := by rw [heq, decide_eq_true hpq]; rfl
                  have c1 := (OQ.out _ B6.out).cell f1
                  have c2 := (OQ.out _ B6.out).cell f2
                  clear heq f1 f2 hpq
                  go_wp2_with fail
                  go_quiet (fail)
                  go_wp2_with fail
                  go_roundw
                  case rel => first | exact ⟨q + 1, by omega, by go_num, hid (below_drewN B6.out _)⟩ | ((repeat apply Exists.intro); exact ⟨⟨q + 1, by omega, by go_num, hid (below_drewN B6.out _)⟩, rfl⟩)
                  case measure => simp [intOf]; omega
                · have g1 : ((p : Int) == (q : Int)) = false := by simp; omega
                  rw [decide_eq_false hpq, Bool.false_or] at heq
                  go_wp2_with fail
                  refine (KC2.out _ (P5.out.below B6.out)).mono ?_
                  rintro r w7 ⟨rfl, hb7⟩
                  have B7 : Hid (Below w5.heap.size w5 w7) := below_tr B6.out hb7
                  have P7 := hid (P6.out.below hb7)
                  clear hb7 B6 P6 KC2
                  cases hW1 : Gr.W X n p q with
                  | false =>
                    have g2 : ((ip : Int) == (iq : Int)) = false := by rw [heq, hW1]; rfl
                    have c1 := (OQ.out _ B7.out).cell f1
                    have c2 := (OQ.out _ B7.out).cell f2
                    clear heq f1 f2 hW1
                    go_wp2_with fail
                    go_quiet (fail)
                    go_wp2_with fail
                    go_roundw
                    case rel => first | exact ⟨q + 1, by omega, by go_num, hid (below_drewN B7.out _)⟩ | ((repeat apply Exists.intro); exact ⟨⟨q + 1, by omega, by go_num, hid (below_drewN B7.out _)⟩, rfl⟩)
                    case measure => simp [intOf]; omega
                  | true =>
                    rw [hW1, Bool.true_and] at heq
                    go_wp2_with fail
                    refine (KD.out _ a6 c6 P7.out).mono ?_
                    rintro r w8 ⟨rfl, hb8⟩
                    have B8 : Hid (Below w5.heap.size w5 w8) := below_tr B7.out hb8
                    have c1 := (OQ.out _ B8.out).cell f1
                    have c2 := (OQ.out _ B8.out).cell f2
                    clear hb8 B7 P7 KD f1 f2 hW1
                    cases hW2 : Gr.W X n q p with
                    | false =>
                      rw [hW2] at heq
                      clear hW2
                      go_wp2_with fail
                      go_quiet (fail)
                      go_wp2_with fail
                      go_roundw
                      case rel => first | exact ⟨q + 1, by omega, by go_num, hid (below_drewN B8.out _)⟩ | ((repeat apply Exists.intro); exact ⟨⟨q + 1, by omega, by go_num, hid (below_drewN B8.out _)⟩, rfl⟩)
                      case measure => simp [intOf]; omega
                    | true =>
                      rw [hW2] at heq
                      clear hW2
                      go_wp2_with fail
                      go_quiet (fail)
                      go_wp2_with fail
                      go_roundw
                      case rel => first | exact ⟨q + 1, by omega, by go_num, hid (below_drewN B8.out _)⟩ | ((repeat apply Exists.intro); exact ⟨⟨q + 1, by omega, by go_num, hid (below_drewN B8.out _)⟩, rfl⟩)
                      case measure => simp [intOf]; omega
              · obtain rfl : q = n := by omega
                have j4 : decide ((q : Int) < (q : Int)) = false := by simp
                go_wp2_with fail
                go_roundw
                case rel => exact ⟨p + 1, by omega, by go_num, hid (below_tr B5.out hb.out)⟩
                case measure => simp [intOf]; omega
          · obtain rfl : p = n := by omega
            have j4 : decide ((p : Int) < (p : Int)) = false := by simp
            have j5 : ((p : Int) == (p : Int)) = true := by simp
            go_wp2_with fail
            go_ret
            exact ⟨rfl, below_tr W0.out hb.out⟩
  · have e2 : Gr.partList n X = [] := if_neg h0
    rw [e2]
    generalize Gr.check n X = Y at *
    have j2 : (Y != 0) = true := by simpa using h0
    clear h0 e2 P3
    go_wp2_with fail
    go_ret
    exact ⟨rfl, B3.out⟩
end Go.Proofs.YtfalojjnhlchmahDoor.PGraph
