/- quirkeep.GraphOrder, walked: it answers true, and nothing that was there has turned. Conditions: how many edges there are; the library's table is as its initialiser lays it. -/
import Derived.Test.YtfalojjnhlchmahDoorGraphOrd
import Derived.Test.YtfalojjnhlchmahDoorGraphPrt
import Derived.Test.YtfalojjnhlchmahDoorGraphCon
import Derived.Test.YtfalojjnhlchmahDoorGraphIdx
import Derived.Test.YtfalojjnhlchmahDoorGraphZero
namespace Go.Proofs.YtfalojjnhlchmahDoor.PGraph
open Go Go.RowKit PPool
set_option maxRecDepth 100000

/-- The test: is the edge's beginning not ahead of its end? -/
theorem later_any (w : World) (base i j u v : Nat) (q : Addr) (g n c : Nat) (A : List Nat) (h : w.cell? q = some (.slice (some ⟨g, 0, none⟩) n c)) (hA : OwnNats w base (.slice (some ⟨g, 0, none⟩) n c) A) (hi : A[i]? = some u) (hj : A[j]? = some v) :
    Calls Tryd.prog 10 #[.agg #[.int .i64 (i : Int), .int .i64 (j : Int)], .pointer (some q)] w fun e w' => e = .returned (.bool (decide (v ≤ u))) ∧ Below w.heap.size w w' := by
  have hb := bx w (.cells #[.int .i64 (i : Int), .int .i64 (j : Int)] 28)
  have hn := hA.len
  have h' := keep1 hb h
  have hA' := hA.below hb
  have c1 := hA'.cell hi
  have c2 := hA'.cell hj
  obtain ⟨i1, -⟩ := List.getElem?_eq_some_iff.1 hi
  obtain ⟨j1, -⟩ := List.getElem?_eq_some_iff.1 hj
  have i2 : (0 : Int) ≤ (i : Int) := by omega
  have i3 : (i : Int) < (n : Int) := by omega
  have j2 : (0 : Int) ≤ (j : Int) := by omega
  have j3 : (j : Int) < (n : Int) := by omega
  clear hi hj hA hA' hb i1 j1 hn
  go_enter Tryd.func10, Tryd.ntmps10
  go_wp2_with fail
  go_quiet (fail)
  go_wp2_with fail
  go_ret
  exact ⟨rfl, below_drewN (bx _ _) _⟩

/-- Does an edge go back? -/
def back (A : List Nat) (x : Gr.Ed) : Bool := decide ((A[x.t.toNat]?).getD 0 ≤ (A[x.f.toNat]?).getD 0)

set_option maxHeartbeats 8000000 in
theorem order_walk (w : World) (n : Int) (a : Option Addr) (c : Nat) (X : List Gr.Ed) (h : PgAt w a X) (hl : X.length ≤ 9223372036854775807) (hT : Tab w) :
    Calls Tryd.prog 3 #[.int .i64 n, .slice a X.length c] w fun e w' => e = .returned (.bool true) ∧ Below w.heap.size w w' := by
  have H := hid h
  have HT := hid hT
  have P1 : Hid (PgAt (w.alloc (.cells #[.int .i64 2, .int .i64 0] 28)) (some ⟨w.heap.size, 0, none⟩) [⟨2, 0⟩]) := fun j x hj => by
    cases j with
    | zero => cases hj; exact ⟨_, _, rfl, (box2 (Below.refl _ _)).1, (box2 (Below.refl _ _)).2⟩
    | succ j => cases hj
  have K1 := hid (order_any (w.alloc (.cells #[.int .i64 2, .int .i64 0] 28)) 3 (some ⟨w.heap.size, 0, none⟩) 1 [⟨2, 0⟩] P1.out (by decide))
  rw [show Gr.ordCode 3 [⟨2, 0⟩] = 0 from by decide, show Gr.ordList 3 [⟨2, 0⟩] = [1, 2, 0] from by decide] at K1
  have KE := hid fun W a1 a2 c1 c2 h1 h2 => eqNats_any W a1 a2 c1 c2 [1, 2, 0] [1, 2, 0] h1 h2 (by decide)
  have KG := hid fun W hp => order_any W n a c X hp hl
  have KW := hid fun W k hp hT => way_any W n a c X k hp hl hT
  clear h hT P1
  go_enter Tryd.func3, Tryd.ntmps3
  go_wp2_with fail
  refine (K1.out).mono ?_
  rintro r w1 ⟨v1, rfl, ho1, hb1⟩
  have B1 : Hid (Below w.heap.size w w1) := below_tr (bx _ _) hb1
  obtain ⟨a1, c1, rfl, hp1, -⟩ := ho1.at_
  have P1 := hid hp1
  have PB : Hid (NatsAt (w1.alloc (.cells #[.int .i64 1, .int .i64 2, .int .i64 0] 3)) (some ⟨w1.heap.size, 0, none⟩) [1, 2, 0]) := fun j x hj => by
    refine ⟨_, _, rfl, ?_⟩
    rw [cell_of_row _ _ _ _ _ _ (heap_alloc_new w1 _)]
    match j, hj with
    | 0, hj => cases hj; rfl
    | 1, hj => cases hj; rfl
    | 2, hj => cases hj; rfl
    | j + 3, hj => cases hj
  clear hb1 ho1 hp1 K1
  go_wp2_with fail
  refine (KE.out _ a1 (some ⟨w1.heap.size, 0, none⟩) c1 3 (P1.out.below (bx _ _)) PB.out).mono ?_
  rintro r w2 ⟨rfl, hb2⟩
  have B2 : Hid (Below w.heap.size w w2) := below_tr B1.out (below_tr (bx _ _) hb2)
  clear hb2 P1 PB B1 KE
  go_wp2_with fail
  refine (KG.out _ (H.out.below B2.out)).mono ?_
  rintro r w3 ⟨v3, rfl, ho3, hb3⟩
  have B3 : Hid (Below w.heap.size w w3) := below_tr B2.out hb3
  have O3 := hid ho3
  obtain ⟨a3, c3, rfl, hp3, -, hc3, -⟩ := ho3.at_
  have P3 := hid hp3
  clear hb3 ho3 hp3 B2 KG
  by_cases h11 : Gr.ordCode n X = 11
  · obtain ⟨h0, hno, hli⟩ := Gr.ordCode_loop h11
    obtain ⟨n, rfl, hR⟩ := Right.of h0
    rw [Int.toNat_natCast] at hno
    have HN := hid (Gr.order_none hno)
    rw [h11, hli]
    have HR := hid hR
    have hn := hR.1
    have H0 := hid h0
    clear h11 h0 hno hli hR P3 O3 hc3
    go_wp2_with fail
    go_loopw [38] (fun i wr => ∃ k : Nat, k ≤ n ∧ i = .int .i64 (k : Int) ∧ Hid (∀ j, j < k → Gr.W X n j j = false) ∧ Hid (Below w3.heap.size w3 wr)) (fun i _ => n - (intOf i).toNat)
    case atStart => exact ⟨0, Nat.zero_le _, rfl, fun j hj => absurd hj (Nat.not_lt_zero _), Below.refl _ _⟩
    case round =>
      obtain ⟨k, hk, rfl, hW, hb⟩ := hrel
      by_cases hlt : k < n
      · have k1 : (k : Int) < (n : Int) := by omega
        have hbw : Below w.heap.size w wr := below_tr B3.out hb.out
        have HK := hid (KW.out wr (k : Int) (H.out.below hbw) (HT.out.below hbw))
        obtain ⟨e1, e2⟩ := Gr.way_self H0.out hlt
        rw [e1, e2] at HK
        have hhas := Gr.way_has (X := X) (k := k) hlt
        have hfl : ((List.range n).filter (Gr.W X n k)).length ≤ 9223372036854775807 := by
          have := List.length_filter_le (Gr.W X n k) (List.range n)
          rw [List.length_range] at this
          omega
        generalize (List.range n).filter (Gr.W X n k) = L at *
        have KC := hid fun W a' c' hp => hasNat_any W a' c' L k hp hfl
        rw [hhas] at KC
        clear e1 e2 hhas hfl hbw
        go_wp2_with fail
        refine (HK.out).mono ?_
        rintro r w4 ⟨v4, rfl, ho4, hb4⟩
        have B4 : Hid (Below w3.heap.size w3 w4) := below_tr hb.out hb4
        obtain ⟨a4, c4, rfl, hp4, -⟩ := ho4.at_
        have P4 := hid hp4
        clear hb4 ho4 hp4 HK
        go_wp2_with fail
        refine (KC.out _ a4 c4 P4.out).mono ?_
        rintro r w5 ⟨rfl, hb5⟩
        have B5 : Hid (Below w3.heap.size w3 w5) := below_tr B4.out hb5
        clear hb5 P4 B4 KC
        cases hw : Gr.W X n k k with
        | true =>
          go_wp2_with fail
          go_ret
          exact ⟨rfl, below_tr B3.out B5.out⟩
        | false =>
          have HW : Hid (∀ j, j < k + 1 → Gr.W X n j j = false) := fun j hj => by
            rcases Nat.lt_or_ge j k with h1 | h1
            · exact hW.out j h1
            · obtain rfl : j = k := by omega
              exact hw
          go_wp2_with fail
          go_roundw
          case rel => exact ⟨k + 1, by omega, by go_num, HW, B5⟩
          case measure => simp [intOf]; omega
      · obtain rfl : k = n := by omega
        obtain ⟨j, hj, hw⟩ := HN.out
        rw [hW.out j hj] at hw
        cases hw
  · by_cases h0 : Gr.ordCode n X = 0
    · obtain ⟨hc0, hso⟩ := Gr.ordCode_zero h0
      obtain ⟨n, rfl, hR⟩ := Right.of hc0
      rw [Int.toNat_natCast] at hso
      obtain ⟨hF, hln⟩ := Gr.order_some hso
      rw [h0]
      generalize Gr.ordList (n : Int) X = l at *
      have HR := hid hR
      have hn := hR.1
      have HF := hid hF
      have HLN := hid hln
      have hll : l.length ≤ 60 := by omega
      have hmk := run_make_zeros n (by omega)
      have OM := hid (made_zeros w3 n (by unfold maxLen; omega))
      obtain ⟨M, hM⟩ : ∃ M, M = madeCells #[Value.int .i64 0] (n * 1) := ⟨_, rfl⟩
      rw [← hM] at hmk OM
      have hX2 := hR.2.1
      have HC3 := hid hc3
      clear h11 h0 hc0 hso hF hln hR hM hc3 KW O3
      go_wp2_with fail
      go_loopw [68] (fun i wr => ∃ (k : Nat) (A : List Nat), k ≤ l.length ∧ i = .int .i64 (k : Int) ∧ A.length = n ∧ Hid (Gr.Lay l k A) ∧ Hid (OwnNats wr w3.heap.size (.slice (some ⟨w3.heap.size, 0, none⟩) n n) A) ∧ Hid (wr.cell? ⟨w3.heap.size + 1, 0, none⟩ = some (.slice (some ⟨w3.heap.size, 0, none⟩) n n)) ∧ Hid (Below w3.heap.size w3 wr)) (fun i _ => l.length - (intOf i).toNat)
      case atStart =>
        refine ⟨0, List.replicate n 0, Nat.zero_le _, rfl, by simp, fun j k hj _ => absurd hj (Nat.not_lt_zero _), OM.out.below (bx _ _), ?_, below_tr (bx _ _) (bx _ _)⟩
        have hq := heap_alloc_new (w3.alloc (.cells M 3)) (.cells #[.slice (some ⟨w3.heap.size, 0, none⟩) n n] 23)
        rw [World.size_alloc] at hq
        show _ = _
        rw [cell_of_row _ _ _ _ _ _ hq]
        rfl
      case round =>
        obtain ⟨k, A, hk, rfl, hAl, hA, hO, hB, hb⟩ := hrel
        by_cases hlt : k < l.length
        · obtain ⟨x, hx⟩ : ∃ x, l[k]? = some x := ⟨_, List.getElem?_eq_getElem hlt⟩
          obtain ⟨b, o, rfl, d1⟩ := (P3.out.below hb.out) k x hx
          have k0 : (0 : Int) ≤ (k : Int) := by omega
          have k1 : (k : Int) < (l.length : Int) := by omega
          have hxn := HF.out.lt x (List.mem_of_getElem? hx)
          have x0 : decide ((x : Int) < 0) = false := by simp
          have x1 : decide ((n : Int) ≤ (x : Int)) = false := by simp; omega
          have x2 : (0 : Int) ≤ (x : Int) := by omega
          have x3 : (x : Int) < (n : Int) := by omega
          have htk : (l.take k).length = k := by rw [List.length_take]; omega
          have HC := hid (hasNat_any wr (some ⟨b, o, none⟩) c3 (l.take k) x ((P3.out.below hb.out).take k) (by omega))
          rw [htk, Gr.take_has HF.out.nd hx] at HC
          have u := Tryd.underlying23
          have z := Tryd.sizeOf3
          have hsl : ∀ W : World, (Instr.slice 23 (.slice (some ⟨b, o, none⟩) l.length c3) none (some (.int .i64 (k : Int))) none).run Tryd.prog W = .ok (.slice (some ⟨b, o, none⟩) k c3) W := fun W => by
            have k3 : (k : Int) ≤ (c3 : Int) := by have := HC3.out; omega
            go_simp
          have NA : Hid (Gr.Lay l (k + 1) (A.set x k)) := hA.out.next HF.out.nd hx (by omega)
          have hd : nc x = .int .i64 (x : Int) := rfl
          have hfz := hO.out.fz x
          have hge := hO.out.ge
          have hcx : ∃ y, A[x]? = some y := ⟨_, List.getElem?_eq_getElem (by omega)⟩
          obtain ⟨y, hy⟩ := hcx
          have c4 := hO.out.cell hy
          clear hx hA htk hy
          go_wp2_with fail
          refine (HC.out).mono ?_
          rintro r w4 ⟨rfl, hb4⟩
          have B4 : Hid (Below w3.heap.size w3 w4) := below_tr hb.out hb4
          have f0 := keep1 hb4 hB.out
          have f1 := keep1 hb4 c4
          have f2 := (hb4.frozen (p := ⟨w3.heap.size, x, none⟩) hge.2).trans hfz
          have O4 := hid (hO.out.below hb4)
          clear hb4 hO hB hb c4 hfz HC
          go_wp2_with fail
          have O5 : Hid (OwnNats (w4.setCell ⟨w3.heap.size, x, none⟩ (nc k)) w3.heap.size (.slice (some ⟨w3.heap.size, 0, none⟩) n n) (A.set x k)) := O4.out.set x k
          have B5 : Hid (Below w3.heap.size w3 (w4.setCell ⟨w3.heap.size, x, none⟩ (nc k))) := B4.out.setCell (p := ⟨w3.heap.size, x, none⟩) (Nat.le_refl _) _
          have C5 : Hid ((w4.setCell ⟨w3.heap.size, x, none⟩ (nc k)).cell? ⟨w3.heap.size + 1, 0, none⟩ = some (.slice (some ⟨w3.heap.size, 0, none⟩) n n)) := by
            show _ = _
            rw [World.cell?_setCell_other _ _ _ _ (by intro e; injection e with e1 _ _; omega)]
            exact f0
          clear f0 f1 f2 O4 B4
          go_roundw
          case rel => exact ⟨k + 1, A.set x k, by omega, by go_num, by rw [List.length_set]; exact hAl, NA, O5, C5, B5⟩
          case measure => simp [intOf]; omega
        · obtain rfl : k = l.length := by omega
          have j3 : decide ((l.length : Int) < (l.length : Int)) = false := by simp
          have j4 : ((l.length : Int) == (n : Int)) = true := by have := HLN.out; simp; omega
          have hbw : Below w.heap.size w wr := below_tr B3.out hb.out
          have HA := hid hA.out
          have hP : ∀ W x, x ∈ X → Below wr.heap.size wr W → Calls Tryd.prog 10 (#[.agg #[.int .i64 x.f, .int .i64 x.t]] ++ #[.pointer (some ⟨w3.heap.size + 1, 0, none⟩)]) W fun e W' => e = .returned (.bool (back A x)) ∧ Below W.heap.size W W' := fun W x hx hW => by
            obtain ⟨i, j, rfl, hi, hj⟩ := HR.out.2.2 x hx
            obtain ⟨p, q, hp, hq, _⟩ := Gr.forward HR.out.E HF.out HLN.out (by rw [← HLN.out]; exact HA.out) (show Gr.E X i j = true from decide_eq_true hx)
            have := later_any W w3.heap.size i j p q ⟨w3.heap.size + 1, 0, none⟩ w3.heap.size n n A (keep1 hW hB.out) (hO.out.below hW) hp hq
            have e : back A (Gr.ed i j) = decide (q ≤ p) := by
              unfold back Gr.ed
              simp [hp, hq]
            rw [e]
            exact this
          have HAS := hid (hasE_any wr a c X 10 #[.pointer (some ⟨w3.heap.size + 1, 0, none⟩)] (back A) (fun args W => rfl) hP (H.out.below hbw) hl)
          have hno : X.any (back A) = false := by
            rw [Bool.eq_false_iff]
            intro hc
            obtain ⟨x, hx, hbx⟩ := List.any_eq_true.1 hc
            obtain ⟨i, j, rfl, hi, hj⟩ := HR.out.2.2 x hx
            obtain ⟨p, q, hp, hq, hpq⟩ := Gr.forward HR.out.E HF.out HLN.out (by rw [← HLN.out]; exact HA.out) (show Gr.E X i j = true from decide_eq_true hx)
            unfold back Gr.ed at hbx
            simp [hp, hq] at hbx
            omega
          rw [hno] at HAS
          have HBW := hid hbw
          clear hP hno hbw hA hO hB
          go_wp2_with fail
          refine (HAS.out).mono ?_
          rintro r w5 ⟨rfl, hb5⟩
          go_wp2_with fail
          go_ret
          exact ⟨rfl, below_tr HBW.out hb5⟩
    · have hli := Gr.ordList_bad h0
      rw [hli]
      generalize Gr.ordCode n X = Y at *
      have j1 : (Y == 11) = false := by simpa using h11
      have j2 : (Y != 0) = true := by simpa using h0
      clear h11 h0 hli P3 O3 hc3
      go_wp2_with fail
      go_ret
      exact ⟨rfl, B3.out⟩
end Go.Proofs.YtfalojjnhlchmahDoor.PGraph
