/- quirkeep.WaitRule, walked: it answers true, and nothing that was there has turned. Conditions: how many edges there are. -/
import Derived.Test.YtbgcldckgiiedajWaitRul
import Derived.Test.YtbgcldckgiiedajWaitRest
import Derived.Test.YtbgcldckgiiedajGraphOrd
import Derived.Deep.QuietTactic
import Derived.BigQuiet
namespace Go.Proofs.Ytbgcldckgiiedaj.PWait
open Go Go.RowKit PPool PGraph
set_option maxRecDepth 100000

/-- An ask, as the walk takes it. -/
def rest60 (x : Gr.Ed) : Gr.Ed := ⟨x.f % 60, x.t % 60⟩
theorem rest60_in (X : List Gr.Ed) : Wa.In (X.map rest60) 60 := fun e he => by
  obtain ⟨x, _, rfl⟩ := List.mem_map.1 he
  simp only [rest60]
  omega
theorem waits_next {r : Int} {X : List Gr.Ed} {m : Nat} {x : Gr.Ed} (hx : X[m]? = some x) :
    Wa.waits r ((X.map rest60).take (m + 1)) = Wa.waits r ((X.map rest60).take m) ++ (if Wa.ruleCode r (x.f % 60) (x.t % 60) = 0 ∧ Wa.ruleDo r (x.f % 60) (x.t % 60) = 1 then [⟨x.f % 60, x.t % 60⟩] else []) := by
  have hx2 : (X.map rest60)[m]? = some (rest60 x) := by rw [List.getElem?_map, hx]; rfl
  obtain ⟨h1, h2⟩ := List.getElem?_eq_some_iff.1 hx2
  unfold Wa.waits
  rw [List.take_succ_eq_append_getElem h1, h2, List.filter_append]
  congr 1
  simp only [List.filter_cons, List.filter_nil, rest60, Bool.and_eq_true, decide_eq_true_eq]
theorem waits_len (r : Int) (X : List Gr.Ed) (m : Nat) : (Wa.waits r (X.take m)).length ≤ m := by
  unfold Wa.waits
  exact Nat.le_trans (List.length_filter_le _ _) (by rw [List.length_take]; exact Nat.min_le_left _ _)

set_option maxHeartbeats 8000000 in
theorem rule_walk (w : World) (r : Int) (a : Option Addr) (c : Nat) (X : List Gr.Ed) (h : PgAt w a X) (hl : X.length * 16 ≤ 140737488351232) :
    Calls Try.prog 5 #[.int .i64 r, .slice a X.length c] w fun e w' => e = .returned (.bool true) ∧ Below w.heap.size w w' := by
  have H := hid h
  have K1 := hid (rule_any w 1 1 2)
  rw [show Wa.ruleDo 1 1 2 = 1 from by decide, show Wa.ruleCode 1 1 2 = 0 from by decide] at K1
  have KR := hid rule_any
  have KS := hid fun x W => rest_any x 60 W (by decide) (by decide)
  have KO := hid order_any
  obtain ⟨i0, hi, hz0, hz1, hz3⟩ := info_parts edge_info
  clear h
  go_enter Try.func5, Try.ntmps5
  go_wp2_with fail
  refine (K1.out).mono ?_
  rintro r1 w1 ⟨rfl, hb1⟩
  have B1 := hid hb1
  obtain ⟨w3, hw3⟩ : ∃ w3, w3 = w1 := ⟨_, rfl⟩
  rw [← hw3] at B1 ⊢
  clear hb1 hw3 K1
  go_wp2_with fail
  go_loopw [28, 7] (fun i vv wr => ∃ (m : Nat) (v : Value), m ≤ X.length ∧ i = .int .i64 (m : Int) ∧ v = vv ∧ Hid (OwnPg wr w3.heap.size v (Wa.waits r ((X.map rest60).take m))) ∧ Hid (Below w3.heap.size w3 wr)) (fun i _ _ => X.length - (intOf i).toNat)
  case atStart => exact ⟨0, _, Nat.zero_le _, rfl, rfl, by show OwnPg _ _ _ _; simp [Wa.waits]; exact OwnPg.nil _ _, Below.refl _ _⟩
  case round =>
    obtain ⟨m, v, hm, rfl, rfl, hO, hb⟩ := hrel
    by_cases hlt : m < X.length
    · obtain ⟨x, hx⟩ : ∃ x, X[m]? = some x := ⟨_, List.getElem?_eq_getElem hlt⟩
      have Bw := hid (below_tr B1.out hb.out)
      obtain ⟨b, o, rfl, d1, d2⟩ := (H.out.below Bw.out) m x hx
      have m0 : (0 : Int) ≤ (m : Int) := by omega
      have m1 : (m : Int) < (X.length : Int) := by omega
      have HN := hid (waits_next (r := r) hx)
      have hlen := waits_len r (X.map rest60) m
      obtain ⟨L, hL⟩ : ∃ L, L = Wa.waits r ((X.map rest60).take m) := ⟨_, rfl⟩
      rw [← hL] at HN hO hlen
      obtain ⟨xf, xt⟩ := x
      simp only at d1 d2 HN
      have hbs := hb.out.size
      obtain ⟨f0, f1⟩ := box2 (Below.refl _ (wr.alloc (.cells #[.int .i64 xf, .int .i64 xt] 48)))
      have OA : Hid (∀ n, OwnPg ((wr.alloc (.cells #[.int .i64 xf, .int .i64 xt] 48)).drewN n) w3.heap.size v L) := fun n => hO.out.below (below_drewN (bx _ _) n)
      have BA : Hid (∀ n, Below w3.heap.size w3 ((wr.alloc (.cells #[.int .i64 xf, .int .i64 xt] 48)).drewN n)) := fun n => below_drewN (below_tr hb.out (bx _ _)) n
      clear hx hL hO hb Bw
      go_wp2_with fail
      go_quiet ((go_at_call 7; exact Calls.quiet_of_same (KS.out _ _)))
      go_wp2_with fail
      have O5 := hid (OA.out nq)
      have B5 := hid (BA.out nq)
      clear OA BA f0 f1 d1 d2
      generalize (wr.alloc (.cells #[.int .i64 xf, .int .i64 xt] 48)).drewN nq = w5 at *
      generalize xf % 60 = p at *
      generalize xt % 60 = q at *
      have KU := hid (KR.out w5 r p q)
      have HRC := hid (rule_cases r p q)
      generalize Wa.ruleDo r p q = RD at *
      generalize Wa.ruleCode r p q = RC at *
      refine (KU.out).mono ?_
      rintro r1 w6 ⟨rfl, hb6⟩
      have O6 := hid (O5.out.below hb6)
      have B6 := hid (below_tr B5.out hb6)
      have s6 : w3.heap.size ≤ w6.heap.size := B6.out.size
      clear KU hb6 O5 B5
      rcases HRC.out with ⟨j1, j2, j3, j4, j5, j6, j7, rfl, rfl⟩ | ⟨j1, j2, j3, j4, j5, j6, j7, rfl, rfl⟩ | ⟨j1, j2, j3, j4, j5, j6, j7, rfl, rfl⟩ | ⟨j1, j2, j3, j4, j5, j6, j7, rfl, rfl⟩ | ⟨j1, j2, j3, j4, j5, j6, j7, rfl, rfl⟩ | ⟨j1, j2, j3, j4, j5, j6, j7, rfl, rfl⟩ | ⟨j1, j2, j3, j4, j5, j6, j7, rfl, rfl⟩
      all_goals clear HRC
      · have HS : Hid (Wa.waits r ((X.map rest60).take (m + 1)) = L) := by show _ = _; rw [HN.out]; simp
        clear HN j1 j2 j3 j4 j5
        go_wp2_with fail
        go_roundw
        case rel => exact ⟨m + 1, _, by omega, by go_num, rfl, by rw [HS.out]; exact O6, B6⟩
        case measure => simp [intOf]; omega
      · have HS : Hid (Wa.waits r ((X.map rest60).take (m + 1)) = L) := by show _ = _; rw [HN.out]; simp
        clear HN j1 j2 j3 j4 j5
        go_wp2_with fail
        go_roundw
        case rel => exact ⟨m + 1, _, by omega, by go_num, rfl, by rw [HS.out]; exact O6, B6⟩
        case measure => simp [intOf]; omega
      · have HS : Hid (Wa.waits r ((X.map rest60).take (m + 1)) = L) := by show _ = _; rw [HN.out]; simp
        clear HN j1 j2 j3 j4 j5
        go_wp2_with fail
        go_roundw
        case rel => exact ⟨m + 1, _, by omega, by go_num, rfl, by rw [HS.out]; exact O6, B6⟩
        case measure => simp [intOf]; omega
      · have HS : Hid (Wa.waits r ((X.map rest60).take (m + 1)) = L) := by show _ = _; rw [HN.out]; simp
        clear HN j1 j2 j3 j4 j5
        go_wp2_with fail
        go_roundw
        case rel => exact ⟨m + 1, _, by omega, by go_num, rfl, by rw [HS.out]; exact O6, B6⟩
        case measure => simp [intOf]; omega
      · have HS : Hid (Wa.waits r ((X.map rest60).take (m + 1)) = L ++ [⟨p, q⟩]) := by show _ = _; rw [HN.out]; simp
        have O7 : w6.ownsRow w3.heap.size 48 2 v L.length (L.flatMap sc) := O6.out
        clear HN j1 j2 j3 j4 j5 O6
        go_wp2_with (at_builtin; refine wpList_append_own _ rfl _ _ 43 rfl w3.heap.size 48 i0 (.agg #[.int .i64 0, .int .i64 0]) 2 16 Try.underlying43 hi hz0 hz1 hz3 rfl (by decide) _ _ _ rfl (O7.alloc _) ⟨w6.heap.size, 0, none⟩ 1 1 (sc ⟨p, q⟩) rfl rfl ?c1 ?c2 ?c3 ?c4 ?c5 ?_)
        case c1 =>
          intro z u hu
          rw [Addr.add_mid]
          exact (cell_of_row _ _ _ _ _ _ (heap_alloc_new w6 _)).trans (by simpa [sc] using hu)
        case c2 => exact sc_one _
        case c3 => unfold maxLen; omega
        case c4 => omega
        case c5 => simp; omega
        intro v' w7 ho7 hg7 hnil7
        have A7 : Hid (OwnPg w7 w3.heap.size v' (Wa.waits r ((X.map rest60).take (m + 1)))) := by
          rw [HS.out]; exact OwnPg.grows ho7
        have B7 : Hid (Below w3.heap.size w3 w7) := (B6.out.alloc s6 _).grown hg7 (by rw [World.size_alloc]; omega) (fun b hb => (O7.lt b hb).1)
        clear ho7 hg7 hnil7 O7 B6 HS
        go_wp2_with fail
        go_roundw
        case rel => exact ⟨m + 1, _, by omega, by go_num, rfl, A7, B7⟩
        case measure => simp [intOf]; omega
      · have HS : Hid (Wa.waits r ((X.map rest60).take (m + 1)) = L ++ [⟨p, q⟩]) := by show _ = _; rw [HN.out]; simp
        have O7 : w6.ownsRow w3.heap.size 48 2 v L.length (L.flatMap sc) := O6.out
        clear HN j1 j2 j3 j4 j5 O6
        go_wp2_with (at_builtin; refine wpList_append_own _ rfl _ _ 43 rfl w3.heap.size 48 i0 (.agg #[.int .i64 0, .int .i64 0]) 2 16 Try.underlying43 hi hz0 hz1 hz3 rfl (by decide) _ _ _ rfl (O7.alloc _) ⟨w6.heap.size, 0, none⟩ 1 1 (sc ⟨p, q⟩) rfl rfl ?c1 ?c2 ?c3 ?c4 ?c5 ?_)
        case c1 =>
          intro z u hu
          rw [Addr.add_mid]
          exact (cell_of_row _ _ _ _ _ _ (heap_alloc_new w6 _)).trans (by simpa [sc] using hu)
        case c2 => exact sc_one _
        case c3 => unfold maxLen; omega
        case c4 => omega
        case c5 => simp; omega
        intro v' w7 ho7 hg7 hnil7
        have A7 : Hid (OwnPg w7 w3.heap.size v' (Wa.waits r ((X.map rest60).take (m + 1)))) := by
          rw [HS.out]; exact OwnPg.grows ho7
        have B7 : Hid (Below w3.heap.size w3 w7) := (B6.out.alloc s6 _).grown hg7 (by rw [World.size_alloc]; omega) (fun b hb => (O7.lt b hb).1)
        clear ho7 hg7 hnil7 O7 B6 HS
        go_wp2_with fail
        go_roundw
        case rel => exact ⟨m + 1, _, by omega, by go_num, rfl, A7, B7⟩
        case measure => simp [intOf]; omega
      · have HS : Hid (Wa.waits r ((X.map rest60).take (m + 1)) = L) := by show _ = _; rw [HN.out]; simp
        clear HN j1 j2 j3 j4 j5
        go_wp2_with fail
        go_roundw
        case rel => exact ⟨m + 1, _, by omega, by go_num, rfl, by rw [HS.out]; exact O6, B6⟩
        case measure => simp [intOf]; omega
    · obtain rfl : m = X.length := by omega
      have j3 : decide ((X.length : Int) < (X.length : Int)) = false := by simp
      rw [List.take_of_length_le (by simp)] at hO
      have hlf := waits_len r (X.map rest60) X.length
      rw [List.take_of_length_le (by simp)] at hlf
      have HW := hid (Wa.waits_order (r := r) (Nat.le_refl 60) (rest60_in X))
      obtain ⟨a4, c4, rfl, hp4, -⟩ := hO.out.at_
      have K4 := hid (KO.out wr 60 a4 c4 _ hp4 (by omega))
      have HW2 : Hid (Gr.ordCode 60 (Wa.waits r (X.map rest60)) = 0 ∨ Gr.ordCode 60 (Wa.waits r (X.map rest60)) = 2) := HW.out
      have B4 := hid (below_tr B1.out hb.out)
      generalize Gr.ordCode 60 (Wa.waits r (X.map rest60)) = g at *
      generalize Gr.ordList 60 (Wa.waits r (X.map rest60)) = L1 at *
      generalize Wa.waits r (X.map rest60) = L2 at *
      clear hO hb hp4 HW
      go_wp2_with fail
      refine (K4.out).mono ?_
      rintro r1 w5 ⟨v5, rfl, ho5, hb5⟩
      have B5 := hid (below_tr B4.out hb5)
      obtain ⟨a5, c5, rfl, -⟩ := ho5.at_
      clear hb5 K4 ho5 B4
      rcases HW2.out with rfl | rfl
      · clear HW2
        go_wp2_with fail
        go_ret
        exact ⟨rfl, B5.out⟩
      · clear HW2
        go_wp2_with fail
        go_ret
        exact ⟨rfl, B5.out⟩
end Go.Proofs.Ytbgcldckgiiedaj.PWait
