/- quirref.Order, walked: it answers as the plain function does, in a row of its own; nothing that was there has turned. Conditions: a right graph. -/
import Derived.Test.YtlhkkhojfndoiabGraphClo
namespace Go.Proofs.Ytlhkkhojfndoiab.PGraph
open Go Go.RowKit PPool
set_option maxRecDepth 100000

def slLen : Value → Nat
  | .slice _ n _ => n
  | _ => 0

set_option maxHeartbeats 8000000 in
theorem rord_any (w : World) (n : Nat) (a : Option Addr) (c : Nat) (X : List Gr.Ed) (h : PgAt w a X) (hR : Right n X) :
    Calls Try.prog 70 #[.int .i64 (n : Int), .slice a X.length c] w fun e w' => ∃ v, e = .returned (.tuple #[v, .bool (Gr.order X n).isSome]) ∧ OwnNats w' w.heap.size v ((Gr.order X n).getD []) ∧ Below w.heap.size w w' := by
  have HX : Hid (∀ i j, Gr.E X i j = true → i < n) := fun i j he => (hR.E i j he).1
  have hn := hR.1
  have KC := hid (clo_any w n a c X h hR)
  have hmk2 := run_make_bools n (by omega)
  have OB := hid fun W => row_made Value.bool 4 false W n (by unfold maxLen; omega)
  obtain ⟨M, hM⟩ : ∃ M, M = madeCells #[Value.bool false] (n * 1) := ⟨_, rfl⟩
  rw [← hM] at hmk2 OB
  obtain ⟨i0, hi, hz0, hz1, hz2⟩ := info_parts int_info3
  obtain ⟨Y, hY⟩ : ∃ Y, Y = Gr.order X n := ⟨_, rfl⟩
  rw [← hY]
  have HY := hid hY
  clear h hR hM hY
  go_enter Try.func70, Try.ntmps70
  go_wp2_with fail
  refine (KC.out).mono ?_
  rintro r w1 ⟨rfl, hm1, hb1⟩
  have HM := hid hm1
  have B1 := hid hb1
  have D0 := hid (OB.out w1)
  clear KC hm1 hb1 OB
  obtain ⟨D, hD⟩ : ∃ D, D = w1.heap.size := ⟨_, rfl⟩
  have HD := hid hD
  go_wp2_with fail
  rw [← hD] at D0 ⊢
  clear hD
  go_loopw [8] (fun v wr => ∃ (l : List Nat) (m : Nat), l.length + m = n ∧ Hid (OwnNats wr (D + 1) v l) ∧ Hid (OwnBools wr D (.slice (some ⟨D, 0, none⟩) n n) ((List.range n).map (fun i => l.contains i))) ∧ Hid (Gr.Fine X n l) ∧ Hid (Gr.ord X n m l = Y) ∧ Hid (Below w1.heap.size w1 wr)) (fun v _ => n - slLen v)
  case atStart =>
    refine ⟨[], n, by simp, OwnR.nil _ _, ?_, Gr.Fine.nil X n, HY.out.symm, bx _ _⟩
    show OwnR _ _ _ _ _ _
    rw [show (List.range n).map (fun i => ([] : List Nat).contains i) = List.replicate n false from by
      rw [show (fun i => ([] : List Nat).contains i) = fun _ => false from by funext i; simp, List.map_const', List.length_range]]
    exact D0.out
  case round =>
    clear D0
    obtain ⟨l, m, hm, hO, hDn, hF, hY, hb⟩ := hrel
    obtain ⟨av, cv, rfl, -⟩ := hO.out.at_
    cases m with
    | zero =>
      have j1 : decide ((l.length : Int) < (n : Int)) = false := by simp; omega
      have HE : Hid (Y = some l) := hY.out.symm
      clear hY hDn hF
      go_wp2_with fail
      go_ret2
      exact ⟨_, by rw [HE.out]; rfl, by rw [HE.out]; exact hO.out.lower (base' := w.heap.size) (by rw [HD.out]; have := B1.out.size; omega), below_tr B1.out hb.out⟩
    | succ m =>
      have j1 : (l.length : Int) < (n : Int) := by omega
      obtain ⟨wk, hwk⟩ : ∃ wk, wk = wr := ⟨_, rfl⟩
      rw [← hwk] at hO hDn hb ⊢
      clear hwk
      have MK := hid (HM.out.below hb.out)
      go_wp2_with fail
      go_loopw [23, 9] (fun i x wr => ∃ k : Nat, k ≤ n ∧ i = .int .i64 (k : Int) ∧ x = .int .i64 (-1) ∧ Hid (∀ j, j < k → Gr.readyW X n l j = false) ∧ wk = wr) (fun i _ _ => n - (intOf i).toNat)
      case atStart => exact ⟨0, Nat.zero_le _, rfl, rfl, fun j hj => absurd hj (Nat.not_lt_zero _), rfl⟩
      case round =>
        obtain ⟨k, hk, rfl, rfl, hJ, rfl⟩ := hrel
        by_cases hlk : k < n
        · have k0 : (0 : Int) ≤ (k : Int) := by omega
          have k1 : (k : Int) < (n : Int) := by omega
          have d1 := OwnR.cell hDn.out (k := k) (x := l.contains k) (by simp [hlk])
          have R0 : Hid ((!l.contains k) = Gr.rdTo X n l k 0) := (Gr.rdTo_none X n l k).symm
          obtain ⟨lc, hlc⟩ : ∃ lc, lc = l.contains k := ⟨_, rfl⟩
          rw [← hlc] at d1 R0
          have HLC := hid hlc
          clear hlc
          go_wp2_with fail
          go_loopw [32, 11] (fun i r wr => ∃ q : Nat, q ≤ n ∧ i = .int .i64 (q : Int) ∧ r = .bool (Gr.rdTo X n l k q) ∧ wk = wr) (fun i _ _ => n - (intOf i).toNat)
          case atStart => exact ⟨0, Nat.zero_le _, rfl, by rw [← R0.out], rfl⟩
          case round =>
            obtain ⟨q, hq, rfl, rfl, rfl⟩ := hrel
            by_cases hlq : q < n
            · have q0 : (0 : Int) ≤ (q : Int) := by omega
              have q1 : (q : Int) < (n : Int) := by omega
              have d2 := OwnR.cell hDn.out (k := q) (x := l.contains q) (by simp [hlq])
              have c1 := MK.out.head hlq
              have c2 := MK.out.cell hlq hlk
              have RN := hid (Gr.rdTo_next X n l k q)
              obtain ⟨r1, hr1⟩ : ∃ r1, r1 = Gr.rdTo X n l k (q + 1) := ⟨_, rfl⟩
              have HR1 := hid hr1
              rw [← hr1] at RN
              obtain ⟨wv, hwv⟩ : ∃ wv, wv = Gr.W X n q k := ⟨_, rfl⟩
              rw [← hwv] at c2 RN
              obtain ⟨lq, hlq'⟩ : ∃ lq, lq = l.contains q := ⟨_, rfl⟩
              rw [← hlq'] at d2 RN
              clear hwv hlq' hr1
              cases hr : Gr.rdTo X n l k q with
              | false =>
                have E1 : Hid (false = r1) := by show _ = _; rw [RN.out, hr]; rfl
                clear hr RN d2 c1 c2
                go_wp2_with fail
                go_roundw
                case rel => exact ⟨q + 1, by omega, by go_num, by rw [← HR1.out, ← E1.out], by first | rfl | trivial⟩
                case measure => simp [intOf]; omega
              | true =>
                rw [hr, Bool.true_and] at RN
                clear hr
                cases lq with
                | true =>
                  have E1 : Hid (true = r1) := by show _ = _; rw [RN.out]; rfl
                  clear RN c1 c2
                  go_wp2_with fail
                  go_roundw
                  case rel => exact ⟨q + 1, by omega, by go_num, by rw [← HR1.out, ← E1.out], by first | rfl | trivial⟩
                  case measure => simp [intOf]; omega
                | false =>
                  have E1 : Hid ((!wv) = r1) := by show _ = _; rw [RN.out, Bool.false_or]
                  clear RN
                  go_wp2_with fail
                  go_roundw
                  case rel => exact ⟨q + 1, by omega, by go_num, by rw [← HR1.out, ← E1.out], by first | rfl | trivial⟩
                  case measure => simp [intOf]; omega
            · obtain rfl : q = n := by omega
              have j4 : decide ((q : Int) < (q : Int)) = false := by simp
              rw [Gr.rdTo_all]
              clear R0 HLC d1
              cases hr : Gr.readyW X q l k with
              | false =>
                have HJ : Hid (∀ j, j < k + 1 → Gr.readyW X q l j = false) := fun j hj => by
                  rcases Nat.lt_or_ge j k with h1 | h1
                  · exact hJ.out j h1
                  · obtain rfl : j = k := by omega
                    exact hr
                clear hr
                go_wp2_with fail
                go_roundw
                case rel => exact ⟨k + 1, by omega, by go_num, rfl, HJ, by first | rfl | trivial⟩
                case measure => simp [intOf]; omega
              | true =>
                have HNX : Hid (Gr.next X q l = some k) := by
                  show _ = _
                  rw [← Gr.nextW_eq HX.out hF.out, Gr.nextW_is hJ.out hlk hr]
                have HS : Hid (Gr.ord X q m (l ++ [k]) = Y) := by show _ = _; rw [← Gr.ord_step HNX.out]; exact hY.out
                have HF2 := hid (hF.out.snoc HNX.out)
                have d1 := OwnR.cell hDn.out (k := k) (x := l.contains k) (by simp [hlk])
                have dfz := OwnR.fz hDn.out k
                have j5 : decide ((k : Int) < 0) = false := by simp
                have D2 : Hid (OwnBools (wk.setCell ⟨D, k, none⟩ (.bool true)) D (.slice (some ⟨D, 0, none⟩) q q) ((List.range q).map (fun i => (l ++ [k]).contains i))) := by
                  have := OwnR.set hDn.out k true
                  rw [Gr.done_set] at this
                  exact this
                have O2 : Hid (OwnNats (wk.setCell ⟨D, k, none⟩ (.bool true)) (D + 1) (.slice av l.length cv) l) := hO.out.keep fun g hg => Below.heap_setCell _ _ _ _ (fun e' => by
                  have := (hO.out.lt g hg).1
                  have e2 : g = D := e'
                  omega)
                have hown : (wk.setCell ⟨D, k, none⟩ (.bool true)).ownsRow (D + 1) 3 1 (.slice av l.length cv) l.length (l.map nc) := O2.out
                have BB : Hid (Below w1.heap.size w1 (wk.setCell ⟨D, k, none⟩ (.bool true))) := hb.out.setCell (p := ⟨D, k, none⟩) (by show w1.heap.size ≤ D; have := HD.out; omega) _
                have hDlt : Hid (D < wk.heap.size) := (OwnR.ge hDn.out).2
                clear hr hJ hF hY
                have hsz6 : (wk.setCell ⟨D, k, none⟩ (.bool true)).heap.size = wk.heap.size := by simp
                go_wp2_with (at_builtin; refine wpList_append_own _ rfl _ _ 47 rfl (D + 1) 3 i0 (.int .i64 0) 1 8 Try.underlying47 hi hz0 hz1 hz2 rfl (by decide) _ _ _ rfl (hown.alloc _) ⟨wk.heap.size, 0, none⟩ 1 1 [nc k] (by first | rfl | (rw [hsz6])) rfl ?c1 ?c2 ?c3 ?c4 ?c5 ?_)
                case c1 => have := cell_one_new (wk.setCell ⟨D, k, none⟩ (.bool true)) (nc k) 3; rw [hsz6] at this; exact this
                case c2 => exact nats_one [k]
                case c3 => unfold maxLen; omega
                case c4 => omega
                case c5 => simp; have := hDlt.out; omega
                intro v' w4 hown' hgrow hnil
                have O4 : Hid (OwnNats w4 (D + 1) v' (l ++ [k])) := OwnR.grows hown'
                have hbs : w1.heap.size ≤ (wk.setCell ⟨D, k, none⟩ (.bool true)).heap.size := BB.out.size
                have B4 : Hid (Below w1.heap.size w1 w4) := (BB.out.alloc hbs _).grown hgrow (by rw [World.size_alloc]; omega) (fun b hb => by have := (hown.lt b hb).1; have := HD.out; omega)
                have D4 : Hid (OwnBools w4 D (.slice (some ⟨D, 0, none⟩) q q) ((List.range q).map (fun i => (l ++ [k]).contains i))) := (D2.out.below (bx _ _)).keep fun g hg => hgrow.block g (((D2.out.below (bx _ _)).lt g hg).2) (fun e => by
                  have e1 : D = g := by simpa [Value.ownBlock] using hg
                  have := (hown.lt g e.symm).1
                  omega)
                clear hown' hgrow hnil hown D2 O2 BB
                go_wp2_with fail
                go_roundw
                case rel => exact ⟨l ++ [k], m, by rw [List.length_append, List.length_singleton]; omega, O4, D4, HF2, HS, B4⟩
                case measure =>
                  obtain ⟨a4, c4, rfl, -⟩ := O4.out.at_
                  simp [slLen]; omega
        · obtain rfl : k = n := by omega
          have j4 : decide ((k : Int) < (k : Int)) = false := by simp
          have HE : Hid (Y = none) := by
            show _ = _
            rw [← hY.out]
            exact Gr.ord_stuck (by rw [← Gr.nextW_eq HX.out hF.out]; exact Gr.nextW_no hJ.out)
          clear hJ hF hY
          go_wp2_with fail
          go_ret2
          exact ⟨_, by rw [HE.out]; rfl, by rw [HE.out]; exact OwnR.nil _ _, below_tr B1.out hb.out⟩
end Go.Proofs.Ytlhkkhojfndoiab.PGraph
