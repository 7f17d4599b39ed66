/- quirref.Parts, walked: it answers as the plain function does, in rows of its own; nothing that was there has turned. Conditions: a right graph. -/
import Derived.Test.YtfalojjnhlchmabDoorGraphClo
import Derived.Test.YtfalojjnhlchmabDoorGraphRows
namespace Go.Proofs.YtfalojjnhlchmabDoor.PGraph
open Go Go.RowKit PPool
set_option maxRecDepth 100000

set_option maxHeartbeats 8000000 in
theorem rparts_any (w : World) (n : Nat) (a : Option Addr) (c : Nat) (X : List Gr.Ed) (h : PgAt w a X) (hR : Right n X) :
    Calls Tryd.prog 12 #[.int .i64 (n : Int), .slice a X.length c] w fun e w' => ∃ v, e = .returned v ∧ OwnRows w' w.heap.size v (Gr.parts X n) ∧ Below w.heap.size w w' := by
  have hn := hR.1
  have KC := hid (clo_any w n a c X h hR)
  obtain ⟨i0, hi, hz0, hz1, hz2⟩ := info_parts int_info3
  obtain ⟨i1, gi, gz0, gz1, gz2⟩ := info_parts rows_info
  clear h hR
  go_enter Tryd.func12, Tryd.ntmps12
  go_wp2_with fail
  refine (KC.out).mono ?_
  rintro r w1 ⟨rfl, hm1, hb1⟩
  have HM := hid hm1
  have B1 := hid hb1
  clear KC hm1 hb1
  go_wp2_with fail
  go_loopw [14, 6] (fun i v wr => ∃ k : Nat, k ≤ n ∧ i = .int .i64 (k : Int) ∧ Hid (OwnRows wr w1.heap.size v (Gr.partsTo X n k)) ∧ Hid (Below w1.heap.size w1 wr)) (fun i _ _ => n - (intOf i).toNat)
  case atStart => exact ⟨0, Nat.zero_le _, rfl, OwnRows.nil _ _, Below.refl _ _⟩
  case round =>
    obtain ⟨k, hk, rfl, hO, hb⟩ := hrel
    by_cases hlk : k < n
    · have k0 : (0 : Int) ≤ (k : Int) := by omega
      have k1 : (k : Int) < (n : Int) := by omega
      obtain ⟨wk, hwk⟩ : ∃ wk, wk = wr := ⟨_, rfl⟩
      rw [← hwk] at hO hb ⊢
      clear hwk
      obtain ⟨av, cv, rfl, -⟩ := hO.out.at_
      go_wp2_with fail
      go_loopw [18, 8] (fun i v wr => ∃ q : Nat, q ≤ n ∧ i = .int .i64 (q : Int) ∧ Hid (OwnNats wr wk.heap.size v ((List.range q).filter (Gr.eqv X n k))) ∧ Hid (Below wk.heap.size wk wr)) (fun i _ _ => n - (intOf i).toNat)
      case atStart => exact ⟨0, Nat.zero_le _, rfl, OwnR.nil _ _, Below.refl _ _⟩
      case round =>
        obtain ⟨q, hq, rfl, hP, hb2⟩ := hrel
        obtain ⟨pv, pc', rfl, -⟩ := hP.out.at_
        by_cases hlq : q < n
        · have q0 : (0 : Int) ≤ (q : Int) := by omega
          have q1 : (q : Int) < (n : Int) := by omega
          have MK := HM.out.below (below_tr hb.out hb2.out)
          have c1 := MK.head hlq
          have c2 := MK.head hlk
          have c3 := MK.cell hlq hlk
          have c4 := MK.cell hlk hlq
          have hfn := Gr.filter_next (Gr.eqv X n k) q
          have hfl := Gr.filter_len (Gr.eqv X n k) q
          have HE : Hid (Gr.eqv X n k q = (decide (k = q) || (Gr.W X n k q && Gr.W X n q k))) := rfl
          have hbs := hb2.out.size
          obtain ⟨L1, hL1⟩ : ∃ L1, L1 = (List.range (q + 1)).filter (Gr.eqv X n k) := ⟨_, rfl⟩
          obtain ⟨L, hL⟩ : ∃ L, L = (List.range q).filter (Gr.eqv X n k) := ⟨_, rfl⟩
          rw [← hL1, ← hL] at hfn
          rw [← hL] at hP hfl ⊢
          have HL1 := hid hL1
          have HFN := hid hfn
          have hown : wr.ownsRow wk.heap.size 3 1 (.slice pv L.length pc') L.length (L.map nc) := hP.out
          clear MK hL1 hL hfn
          have fin : Hid (Gr.eqv X n k q = true → L ++ [q] = L1) := fun e => by rw [HFN.out, e]; rfl
          have fin2 : Hid (Gr.eqv X n k q = false → L = L1) := fun e => by rw [HFN.out, e]; simp
          by_cases hqk : q = k
          · have g1 : ((q : Int) == (k : Int)) = true := by rw [hqk]; simp
            have E1 := hid (fin.out (by rw [HE.out, decide_eq_true hqk.symm]; rfl))
            clear hqk c3 c4 fin fin2
            go_wp2_with (at_builtin; refine wpList_append_own _ rfl _ _ 25 rfl wk.heap.size 3 i0 (.int .i64 0) 1 8 Tryd.underlying25 hi hz0 hz1 hz2 rfl (by decide) _ _ _ rfl (hown.alloc _) ⟨wr.heap.size, 0, none⟩ 1 1 [nc q] rfl rfl ?c1 ?c2 ?c3 ?c4 ?c5 ?_)
            case c1 => exact cell_one_new _ _ _
            case c2 => exact nats_one [q]
            case c3 => unfold maxLen; omega
            case c4 => omega
            case c5 => simp; omega
            intro v' w4 hown' hgrow hnil
            have O4 : Hid (OwnNats w4 wk.heap.size v' L1) := by rw [← E1.out]; exact OwnR.grows hown'
            have B4 : Hid (Below wk.heap.size wk w4) := (hb2.out.alloc hbs _).grown hgrow (by rw [World.size_alloc]; omega) (fun b hb => (hown.lt b hb).1)
            clear hown' hgrow hnil hown hb2 hP
            go_wp2_with fail
            go_roundw
            case rel => exact ⟨q + 1, by omega, by go_num, by rw [← HL1.out]; exact O4, B4⟩
            case measure => simp [intOf]; omega
          · have g1 : ((q : Int) == (k : Int)) = false := by simp; omega
            have HE2 : Hid (Gr.eqv X n k q = (Gr.W X n k q && Gr.W X n q k)) := by
              show _ = _
              rw [HE.out, decide_eq_false (fun e => hqk e.symm), Bool.false_or]
            clear hqk HE
            cases hv1 : Gr.W X n q k with
            | false =>
              rw [hv1] at c3
              have E1 := hid (fin2.out (by rw [HE2.out, hv1, Bool.and_false]))
              have O4 : Hid (OwnNats wr wk.heap.size (.slice pv L.length pc') L1) := by rw [← E1.out]; exact hP.out
              clear hv1 HE2 fin fin2 hown
              go_wp2_with fail
              go_roundw
              case rel => exact ⟨q + 1, by omega, by go_num, by rw [← HL1.out]; exact O4, hb2⟩
              case measure => simp [intOf]; omega
            | true =>
              rw [hv1] at c3
              cases hv2 : Gr.W X n k q with
              | false =>
                rw [hv2] at c4
                have E1 := hid (fin2.out (by rw [HE2.out, hv2, Bool.false_and]))
                have O4 : Hid (OwnNats wr wk.heap.size (.slice pv L.length pc') L1) := by rw [← E1.out]; exact hP.out
                clear hv1 hv2 HE2 fin fin2 hown
                go_wp2_with fail
                go_roundw
                case rel => exact ⟨q + 1, by omega, by go_num, by rw [← HL1.out]; exact O4, hb2⟩
                case measure => simp [intOf]; omega
              | true =>
                rw [hv2] at c4
                have E1 := hid (fin.out (by rw [HE2.out, hv1, hv2]; rfl))
                clear hv1 hv2 HE2 fin fin2
                go_wp2_with (at_builtin; refine wpList_append_own _ rfl _ _ 25 rfl wk.heap.size 3 i0 (.int .i64 0) 1 8 Tryd.underlying25 hi hz0 hz1 hz2 rfl (by decide) _ _ _ rfl (hown.alloc _) ⟨wr.heap.size, 0, none⟩ 1 1 [nc q] rfl rfl ?c1 ?c2 ?c3 ?c4 ?c5 ?_)
                case c1 => exact cell_one_new _ _ _
                case c2 => exact nats_one [q]
                case c3 => unfold maxLen; omega
                case c4 => omega
                case c5 => simp; omega
                intro v' w4 hown' hgrow hnil
                have O4 : Hid (OwnNats w4 wk.heap.size v' L1) := by rw [← E1.out]; exact OwnR.grows hown'
                have B4 : Hid (Below wk.heap.size wk w4) := (hb2.out.alloc hbs _).grown hgrow (by rw [World.size_alloc]; omega) (fun b hb => (hown.lt b hb).1)
                clear hown' hgrow hnil hown hb2 hP
                go_wp2_with fail
                go_roundw
                case rel => exact ⟨q + 1, by omega, by go_num, by rw [← HL1.out]; exact O4, B4⟩
                case measure => simp [intOf]; omega
        · obtain rfl : q = n := by omega
          have j4 : decide ((q : Int) < (q : Int)) = false := by simp
          obtain ⟨r0, l0, hcl, hrep⟩ := Gr.cls_head (X := X) hlk
          have hps := Gr.partsTo_succ X q k
          have hpl := Gr.partsTo_len X q k
          have hP' : OwnNats wr wk.heap.size (.slice pv (Gr.cls X q k).length pc') (Gr.cls X q k) := hP.out
          have hlen : ((List.range q).filter (Gr.eqv X q k)).length = (Gr.cls X q k).length := rfl
          rw [hlen]
          have hpos : 0 < (Gr.cls X q k).length := by rw [hcl]; simp
          obtain ⟨g, gc, cur, e1, _⟩ := OwnR.open_ hP' hpos
          injection e1 with e1 _ e3
          subst e1; subst e3
          have c5 : wr.cell? ⟨g, 0, none⟩ = some (.int .i64 (r0 : Int)) := OwnR.cell hP' (k := 0) (x := r0) (by rw [hcl]; rfl)
          have hlp : ((Gr.cls X q k).length : Int) ≤ 60 := by have := Gr.filter_len (Gr.eqv X q k) q; have : (Gr.cls X q k).length ≤ q := this; omega
          have hlp0 : (0 : Int) < ((Gr.cls X q k).length : Int) := by omega
          obtain ⟨C, hC⟩ : ∃ C, C = Gr.cls X q k := ⟨_, rfl⟩
          rw [← hC] at hP' hps hlp hlp0 ⊢
          have P5 := hid hP'
          have HPS := hid hps
          clear hlen hP hP' hcl hpos hC hps
          cases hrp : Gr.rep X q k with
          | false =>
            rw [hrp] at hrep HPS
            have g1 : ((r0 : Int) == (k : Int)) = false := by have := of_decide_eq_false hrep; simp; omega
            have O1 : Hid (OwnRows wr w1.heap.size (.slice av (Gr.partsTo X q k).length cv) (Gr.partsTo X q (k + 1))) := by
              rw [HPS.out]
              simp only [Bool.false_eq_true, if_false, List.append_nil]
              exact hO.out.below hb2.out
            have B1 := hid (below_tr hb.out hb2.out)
            clear hrep hrp HPS hO hb hb2
            go_wp2_with fail
            go_roundw
            case rel => exact ⟨k + 1, by omega, by go_num, O1, B1⟩
            case measure => simp [intOf]; omega
          | true =>
            rw [hrp] at hrep HPS
            have g1 : ((r0 : Int) == (k : Int)) = true := by have := of_decide_eq_true hrep; simp; omega
            have HE : Hid (Gr.partsTo X q (k + 1) = Gr.partsTo X q k ++ [C]) := by show _ = _; rw [HPS.out]; simp
            obtain ⟨S, s1, s2, s3⟩ := hO.out.below hb2.out
            have N5 := hid (P5.out.lower (base' := w1.heap.size) hb.out.size)
            have S3 := hid s3
            have B5 : Hid (Below w1.heap.size w1 wr) := below_tr hb.out hb2.out
            have hown5 : wr.ownsRow w1.heap.size 25 1 (.slice av (Gr.partsTo X q k).length cv) S.length (S.map id) := s1
            have hbs5 := B5.out.size
            have hsl : S.length ≤ 60 := by omega
            clear hrep hrp HPS hO hb hb2 s3
            obtain ⟨y, hy⟩ : ∃ y, y = C.length := ⟨_, rfl⟩
            rw [← hy] at N5 hlp hlp0 ⊢
            clear hy
            go_wp2_with (at_builtin; refine wpList_append_own _ rfl _ _ 28 rfl w1.heap.size 25 i1 (.slice none 0 0) 1 24 Tryd.underlying28 gi gz0 gz1 gz2 rfl (by decide) _ _ _ rfl (hown5.alloc _) ⟨wr.heap.size, 0, none⟩ 1 1 [.slice (some ⟨g, 0, none⟩) y pc'] rfl rfl ?c1 ?c2 ?c3 ?c4 ?c5 ?_)
            (try (case c1 => exact cell_one_new _ _ _))
            case c2 => first | rfl | (intro u hu; rw [List.mem_singleton.1 hu]; rfl)
            case c3 => unfold maxLen; omega
            case c4 => omega
            case c5 => first | omega | (simp; omega)
            intro v' w6 hown' hgrow hnil
            have O6 : Hid (OwnRows w6 w1.heap.size v' (Gr.partsTo X q (k + 1))) := by
              rw [HE.out]
              exact OwnRows.push (s1.below (bx _ _)) s2 (fun i s l h1 h2 => (S3.out i s l h1 h2).below (bx _ _)) (N5.out.below (bx _ _)) hgrow (OwnR.grows (enc := id) (by rw [s2, List.map_id]; exact hown'))
            have B6 : Hid (Below w1.heap.size w1 w6) := (B5.out.alloc hbs5 _).grown hgrow (by rw [World.size_alloc]; omega) (fun b hb => (hown5.lt b hb).1)
            clear hown' hgrow hnil hown5 B5 s1 S3 N5
            go_wp2_with fail
            go_roundw
            case rel => exact ⟨k + 1, by omega, by go_num, O6, B6⟩
            case measure => simp [intOf]; omega
    · obtain rfl : k = n := by omega
      have j4 : decide ((k : Int) < (k : Int)) = false := by simp
      go_wp2_with fail
      go_ret
      exact ⟨_, rfl, hO.out.lower B1.out.size, below_tr B1.out hb.out⟩
end Go.Proofs.YtfalojjnhlchmabDoor.PGraph
