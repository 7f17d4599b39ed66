/- quirlaw.RunSays, walked: it answers true, and nothing that was there has turned. Conditions: the operations lie where their slice says; the capacity is no less than the length. -/
import Derived.Test.YtlhkkhojfndoiabRunRErr
import Derived.Test.YtlhkkhojfndoiabRunRKnd
import Derived.Test.YtlhkkhojfndoiabRunRSer
import Derived.Test.YtlhkkhojfndoiabRunEq
namespace Go.Proofs.Ytlhkkhojfndoiab.PRun
open Go Go.RowKit PPool PGraph
set_option maxRecDepth 100000
attribute [local go_sem ↓] loadK_pre storeK_pre

/-- What stands while the law is told: the edges, the order, the three. -/
structure SyAt (w W : World) (N : Nat) (a1 : Option Addr) (L1 : List Gr.Ed) (a2 : Option Addr) (L2 : List Nat) (r c s : Bool) : Prop where
  p1 : PgAt W a1 L1
  p2 : NatsAt W a2 L2
  kind : ArrAt W N #[.bool r, .bool c, .bool s]
  bel : Below w.heap.size w W
theorem SyAt.below {w W W' : World} {N : Nat} {a1 : Option Addr} {L1 : List Gr.Ed} {a2 : Option Addr} {L2 : List Nat} {r c s : Bool} (h : SyAt w W N a1 L1 a2 L2 r c s) (hb : Below W.heap.size W W') : SyAt w W' N a1 L1 a2 L2 r c s :=
  ⟨h.p1.below hb, h.p2.below hb, h.kind.below hb, below_tr h.bel hb⟩
theorem SyAt.drew {w W : World} {N : Nat} {a1 : Option Addr} {L1 : List Gr.Ed} {a2 : Option Addr} {L2 : List Nat} {r c s : Bool} (h : SyAt w W N a1 L1 a2 L2 r c s) : SyAt w W.drew N a1 L1 a2 L2 r c s := h.below (Below.refl _ _).drew

theorem kind_eq (r c s : Bool) (w : World) : (Op.equalIn 10000 71 (.agg #[.bool r, .bool c, .bool s]) (.agg #[.bool r, .bool c, .bool s])).run Try.prog w = .ok true w := by
  have u3 := Try.underlying4
  have hS : Try.prog.underlying 71 = some (.struct (Try.prog.fieldsOf 71)) := by kernel_rfl
  have hp : Try.prog.stoodInHeld 71 = false := by kernel_rfl
  rw [show (10000 : Nat) = 9999 + 1 from rfl, run_equalIn_agg w 9999 71 _ _ hS hp]
  simp only [Program.fieldsOf, Try.underlying71]
  cases r <;> cases c <;> cases s <;> go_simp

set_option maxHeartbeats 4000000 in
theorem says_walk (w : World) (a : Option Addr) (c : Nat) (X : List Rn.Op) (h : OpAt w a X) (hl : X.length ≤ 9223372036854775807) (hcap : X.length ≤ c) :
    Calls Try.prog 5 #[.slice a X.length c] w fun e w' => e = .returned (.bool true) ∧ Below w.heap.size w w' := by
  have H := hid h
  have K1 := hid (rerr_any w a c X h hl hcap)
  have K2 := hid fun W hp => edges_any W a c X hp hl hcap
  have K3 := hid fun W hp => serial_any W a c X hp hl hcap
  have K4 := hid fun W hp => kinds_any W a c X hp hl hcap
  have K5 := hid fun W hp => check_any W a c X hp hl
  clear h
  obtain ⟨e1, he1⟩ : ∃ e, e = edgesOf X := ⟨_, rfl⟩
  obtain ⟨s1, hs1⟩ : ∃ e, e = serL X := ⟨_, rfl⟩
  obtain ⟨z1, hz1⟩ : ∃ e, e = serE X := ⟨_, rfl⟩
  obtain ⟨r1, hr1⟩ : ∃ e, e = kndR X := ⟨_, rfl⟩
  obtain ⟨q1, hq1⟩ : ∃ e, e = kndC X := ⟨_, rfl⟩
  obtain ⟨t1, ht1⟩ : ∃ e, e = kndS X := ⟨_, rfl⟩
  obtain ⟨Y, hY⟩ : ∃ Y, Y = Rn.check X := ⟨_, rfl⟩
  rw [← he1, ← hY] at K2
  rw [← hs1, ← hz1] at K3
  rw [← hr1, ← hq1, ← ht1, ← hY] at K4
  rw [← hY] at K1 K5
  have HE := hid he1
  have HS := hid hs1
  have HZ := hid hz1
  have HR := hid hr1
  have HQ := hid hq1
  have HT := hid ht1
  have HY := hid hY
  clear he1 hs1 hz1 hr1 hq1 ht1 hY
  go_enter Try.func5, Try.ntmps5
  go_wp2_with fail
  refine (K1.out).mono ?_
  rintro r w1 ⟨rfl, hb1⟩
  have B1 := hid hb1
  clear hb1 K1
  go_wp2_with fail
  refine (K2.out _ (H.out.below B1.out)).mono ?_
  rintro r w2 ⟨v2, rfl, ho2, hb2⟩
  have B2 : Hid (Below w.heap.size w w2) := below_tr B1.out hb2
  obtain ⟨a2, c2, rfl, hp2, -⟩ := ho2.at_
  have P2 := hid hp2
  clear hb2 ho2 hp2 B1 K2
  go_wp2_with fail
  refine (K3.out _ (H.out.below B2.out)).mono ?_
  rintro r w3 ⟨v3, rfl, ho3, hb3⟩
  have B3 : Hid (Below w.heap.size w w3) := below_tr B2.out hb3
  have P2 := hid (P2.out.below hb3)
  obtain ⟨a3, c3, rfl, hp3, -⟩ := ho3.at_
  have P3 : Hid (NatsAt w3 a3 s1) := hp3
  clear hb3 ho3 hp3 B2 K3
  go_wp2_with fail
  refine (K4.out _ (H.out.below B3.out)).mono ?_
  rintro r w4 ⟨rfl, hb4⟩
  obtain ⟨N, hN⟩ : ∃ N, N = w4.heap.size := ⟨_, rfl⟩
  have st1 : (storeK (.pointer (some ⟨w4.heap.size, 0, none⟩)) (.agg #[.bool r1, .bool q1, .bool t1])).run Try.prog (w4.alloc (.cells #[.bool false, .bool false, .bool false] 71)) = .ok () (w4.alloc (.cells #[.bool r1, .bool q1, .bool t1] 71)) := by
    have e := World.setRow_alloc_new w4 #[.bool false, .bool false, .bool false] #[.bool r1, .bool q1, .bool t1] 71
    rw [← e]
    exact run_storeK (ArrAt.new w4 _ _)
  have S4 : Hid (SyAt w (w4.alloc (.cells #[.bool r1, .bool q1, .bool t1] 71)) N a2 e1 a3 s1 r1 q1 t1) := by
    rw [hN]
    exact ⟨(P2.out.below hb4).below (bx _ _), (P3.out.below hb4).below (bx _ _), ArrAt.new w4 _ _, below_tr (below_tr B3.out hb4) (bx _ _)⟩
  clear hb4 P2 P3 B3 K4
  go_wp2_with fail
  rw [← hN]
  refine (K5.out _ (H.out.below S4.out.bel)).mono ?_
  rintro r w5 ⟨rfl, hb5⟩
  have S5 := hid (S4.out.below hb5)
  clear hb5 S4 K5 st1 hN
  have j1 : (Y != Y) = false := by simp
  have j1' : (Y == Y) = true := by simp
  by_cases h0 : Y = 0
  rotate_left
  · have h0' : ¬ Rn.check X = 0 := by rw [← HY.out]; exact h0
    obtain rfl : e1 = [] := by rw [HE.out]; unfold edgesOf; rw [if_neg h0']
    obtain rfl : s1 = [] := by rw [HS.out]; unfold serL; rw [if_neg h0']
    obtain rfl : z1 = Y := by rw [HZ.out, HY.out]; unfold serE; rw [if_neg h0']
    obtain rfl : r1 = false := by rw [HR.out]; unfold kndR; rw [if_neg h0']
    obtain rfl : q1 = false := by rw [HQ.out]; unfold kndC; rw [if_neg h0']
    obtain rfl : t1 = false := by rw [HT.out]; unfold kndS; rw [if_neg h0']
    have hv0 : (z1 != 0) = true := by simpa using h0
    have lk := run_loadK S5.out.kind
    have hke := kind_eq false false false w5
    have HB := hid S5.out.bel
    clear HE HS HZ HR HQ HT h0 h0' HY S5
    simp only [List.length_nil]
    go_wp2_with fail
    go_ret
    exact ⟨rfl, HB.out⟩
  · have hc0 : Rn.check X = 0 := by rw [← HY.out]; exact h0
    obtain rfl : e1 = Rn.edges X := by rw [HE.out]; unfold edgesOf; rw [if_pos hc0]
    obtain rfl : s1 = Rn.serial X := by rw [HS.out]; unfold serL; rw [if_pos hc0]
    obtain rfl : r1 = Rn.recB X X.length := by rw [HR.out]; unfold kndR; rw [if_pos hc0]
    obtain rfl : q1 = Rn.casB X X.length := by rw [HQ.out]; unfold kndC; rw [if_pos hc0]
    obtain rfl : t1 = Rn.strB X X.length := by rw [HT.out]; unfold kndS; rw [if_pos hc0]
    have hz : z1 = if (Gr.order (Rn.edges X) 12).isSome then 0 else 11 := by rw [HZ.out]; unfold serE; rw [if_pos hc0]
    have hel : (Rn.edges X).length ≤ 156 := Rn.edgesTo_len X 12 0 (by omega) (by omega)
    have hsn : (Gr.order (Rn.edges X) 12).isSome = false → Rn.serial X = [] := fun e => by
      show ((Gr.order (Rn.edges X) 12).getD []).filter (Rn.com X) = []
      cases ho : Gr.order (Rn.edges X) 12 with
      | none => rfl
      | some l => rw [ho] at e; cases e
    have hsl : (Rn.serial X).length ≤ 12 := by
      refine Nat.le_trans (List.length_filter_le _ _) ?_
      cases ho : Gr.order (Rn.edges X) 12 with
      | none => simp
      | some l => exact Nat.le_of_eq (Gr.order_some ho).2
    have K6 := hid fun W hp => rserial_any W a c X hp hc0 hcap
    have K7 := hid fun W a1 a2 c1 c2 h1 h2 => eqNats_any W a1 a2 c1 c2 (Rn.serial X) (Rn.serial X) h1 h2 (by omega)
    have K8 := hid fun W hp => redges_any W a c X hp hc0 hcap
    have K9 := hid fun W a1 a2 c1 c2 h1 h2 => equalE_any W a1 a2 c1 c2 (Rn.edges X) (Rn.edges X) h1 h2 (by omega) (by omega)
    have K10 := hid fun W hp => rkinds_any W a c X hp hc0 hcap
    rw [decide_eq_true rfl] at K7 K9
    subst h0
    clear HE HS HZ HR HQ HT HY hc0
    generalize Rn.recB X X.length = r1 at *
    generalize Rn.casB X X.length = q1 at *
    generalize Rn.strB X X.length = t1 at *
    generalize Rn.serial X = S at *
    generalize (Gr.order (Rn.edges X) 12).isSome = os at *
    generalize Rn.edges X = E at *
    have HZ2 := hid hz
    have HSN := hid hsn
    clear hz hsn P2
    go_wp2_with fail
    refine (K6.out _ (H.out.below S5.out.bel)).mono ?_
    rintro r w6 ⟨v6, rfl, ho6, hb6⟩
    have S6 := hid (S5.out.below hb6)
    obtain ⟨a6, c6, rfl, hp6, -⟩ := ho6.at_
    have P6 : Hid (NatsAt w6 a6 S) := hp6
    clear hb6 ho6 hp6 S5 K6
    cases os with
    | true =>
      have hz : z1 = 0 := HZ2.out
      subst hz
      clear HZ2 HSN
      go_wp2_with fail
      refine (K7.out _ a3 a6 c3 c6 S6.out.p2 P6.out).mono ?_
      rintro r w7 ⟨rfl, hb7⟩
      have S7 := hid (S6.out.below hb7)
      clear hb7 P6 S6 K7
      go_upto_region 11 with fail
      refine wp_region_any (by kernel_rfl) ?_
      change wpAny _ _ _ _ _ _ _ (World.drew _)
      refine wpAny_take (i := 0) (v := ?tv1) rfl (by kernel_rfl) (by kernel_rfl) (by kernel_rfl) (fun _ _ _ h => h) (Or.inl ⟨by rfl, ?th1⟩) ?tr1
      case th1 => (intro w; go_simp; all_goals (with_reducible rfl))
      simp only [Act.put, List.getElem_toArray, List.getElem_cons_zero, List.setIfInBounds_toArray, List.set_cons_zero, List.set_cons_succ]
      refine wpAny_take (i := 1) (v := ?tv2) rfl (by kernel_rfl) (by kernel_rfl) (by kernel_rfl) (fun _ _ _ h => h) (Or.inl ⟨by rfl, ?th2⟩) ?tr2
      case th2 => (intro w; go_simp; all_goals (with_reducible rfl))
      simp only [Act.put, List.getElem_toArray, List.getElem_cons_zero, List.getElem_cons_succ, List.setIfInBounds_toArray, List.set_cons_zero, List.set_cons_succ]
      refine wpAny_ready (rs := [2]) (by kernel_rfl) (by simp) ?_
      refine AllReady.cons rfl (fun K hK => ?_) AllReady.nil
      go_simp
      refine (K8.out _ (H.out.below S7.out.drew.bel)).mono ?_
      rintro r w8 ⟨v8, rfl, ho8, hb8⟩
      have S8 := hid (S7.out.drew.below hb8)
      obtain ⟨a8, c8, rfl, hp8, -⟩ := ho8.at_
      have P8 := hid hp8
      clear hb8 ho8 hp8 S7
      refine hK _ _ ?_
      clear hK K
      try simp only [Act.put, List.getElem_toArray, List.getElem_cons_zero, List.getElem_cons_succ, List.setIfInBounds_toArray, List.set_cons_zero, List.set_cons_succ]
      refine wpAny_ready (rs := [3]) (by kernel_rfl) (by simp) ?_
      refine AllReady.cons rfl (fun K hK => ?_) AllReady.nil
      go_simp
      refine (K9.out _ a2 a8 c2 c8 S8.out.p1 P8.out).mono ?_
      rintro r w9 ⟨rfl, hb9⟩
      have S9 := hid (S8.out.below hb9)
      have lk9 := run_loadK S9.out.kind
      clear hb9 S8 P8
      refine hK _ _ ?_
      clear hK K
      try simp only [Act.put, List.getElem_toArray, List.getElem_cons_zero, List.getElem_cons_succ, List.setIfInBounds_toArray, List.set_cons_zero, List.set_cons_succ]
      refine wpAny_take (i := 4) (v := ?tv3) rfl (by kernel_rfl) (by kernel_rfl) (by kernel_rfl) (fun _ _ _ h => h) (Or.inl ⟨by rfl, ?th3⟩) ?tr3
      case th3 => (intro w; go_simp; all_goals (with_reducible rfl))
      simp only [Act.put, List.getElem_toArray, List.getElem_cons_zero, List.getElem_cons_succ, List.setIfInBounds_toArray, List.set_cons_zero, List.set_cons_succ]
      refine wpAny_take (i := 5) (v := ?tv4) rfl (by kernel_rfl) (by kernel_rfl) (by kernel_rfl) (fun _ _ _ h => h) (Or.inl ⟨by rfl, ?th4⟩) ?tr4
      case th4 => (intro w; go_simp; all_goals (with_reducible rfl))
      simp only [Act.put, List.getElem_toArray, List.getElem_cons_zero, List.getElem_cons_succ, List.setIfInBounds_toArray, List.set_cons_zero, List.set_cons_succ]
      refine wpAny_take (i := 6) (v := ?tv5) rfl (by kernel_rfl) (by kernel_rfl) (by kernel_rfl) (fun _ _ _ h => h) (Or.inl ⟨by rfl, ?th5⟩) ?tr5
      case th5 => (intro w; go_simp; all_goals (with_reducible rfl))
      simp only [Act.put, List.getElem_toArray, List.getElem_cons_zero, List.getElem_cons_succ, List.setIfInBounds_toArray, List.set_cons_zero, List.set_cons_succ]
      refine wpAny_take (i := 7) (v := ?tv6) rfl (by kernel_rfl) (by kernel_rfl) (by kernel_rfl) (fun _ _ _ h => h) (Or.inl ⟨by rfl, ?th6⟩) ?tr6
      case th6 => (intro w; go_simp; all_goals (with_reducible rfl))
      simp only [Act.put, List.getElem_toArray, List.getElem_cons_zero, List.getElem_cons_succ, List.setIfInBounds_toArray, List.set_cons_zero, List.set_cons_succ]
      refine wpAny_take (i := 8) (v := ?tv7) rfl (by kernel_rfl) (by kernel_rfl) (by kernel_rfl) (fun _ _ _ h => h) (Or.inl ⟨by rfl, ?th7⟩) ?tr7
      case th7 => (intro w; go_simp; all_goals (with_reducible rfl))
      simp only [Act.put, List.getElem_toArray, List.getElem_cons_zero, List.getElem_cons_succ, List.setIfInBounds_toArray, List.set_cons_zero, List.set_cons_succ]
      refine wpAny_take (i := 9) (v := ?tv8) rfl (by kernel_rfl) (by kernel_rfl) (by kernel_rfl) (fun _ _ _ h => h) (Or.inl ⟨by rfl, ?th8⟩) ?tr8
      case th8 => (intro w; go_simp; all_goals (with_reducible rfl))
      simp only [Act.put, List.getElem_toArray, List.getElem_cons_zero, List.getElem_cons_succ, List.setIfInBounds_toArray, List.set_cons_zero, List.set_cons_succ]
      refine wpAny_take (i := 10) (v := ?tv9) rfl (by kernel_rfl) (by kernel_rfl) (by kernel_rfl) (fun _ _ _ h => h) (Or.inl ⟨by rfl, ?th9⟩) ?tr9
      case th9 => (intro w; go_simp; all_goals (with_reducible rfl))
      simp only [Act.put, List.getElem_toArray, List.getElem_cons_zero, List.getElem_cons_succ, List.setIfInBounds_toArray, List.set_cons_zero, List.set_cons_succ]
      refine wpAny_take (i := 11) (v := ?tv10) rfl (by kernel_rfl) (by kernel_rfl) (by kernel_rfl) (fun _ _ _ h => h) (Or.inl ⟨by rfl, ?th10⟩) ?tr10
      case th10 => (intro w; go_simp; all_goals (with_reducible rfl))
      simp only [Act.put, List.getElem_toArray, List.getElem_cons_zero, List.getElem_cons_succ, List.setIfInBounds_toArray, List.set_cons_zero, List.set_cons_succ]
      refine wpAny_take (i := 13) (v := ?tv11) rfl (by kernel_rfl) (by kernel_rfl) (by kernel_rfl) (fun _ _ _ h => h) (Or.inl ⟨by rfl, ?th11⟩) ?tr11
      case th11 => (intro w; go_simp; all_goals (with_reducible rfl))
      simp only [Act.put, List.getElem_toArray, List.getElem_cons_zero, List.getElem_cons_succ, List.setIfInBounds_toArray, List.set_cons_zero, List.set_cons_succ]
      refine wpAny_ready (rs := [12, 14]) (by kernel_rfl) (by simp) ?_
      refine AllReady.cons rfl (fun K hK => ?_) (AllReady.cons rfl (fun K hK => ?_) AllReady.nil)
      · skip
        go_simp
        refine hK _ _ ?_
        clear hK K
        try simp only [Act.put, List.getElem_toArray, List.getElem_cons_zero, List.getElem_cons_succ, List.setIfInBounds_toArray, List.set_cons_zero, List.set_cons_succ]
        refine wpAny_ready (rs := [14]) (by kernel_rfl) (by simp) ?_
        refine AllReady.cons rfl (fun K hK => ?_) AllReady.nil
        go_simp
        refine (K10.out _ (H.out.below S9.out.bel)).mono ?_
        rintro r w10 ⟨rfl, hb10⟩
        have S10 := hid (S9.out.below hb10)
        have lk10 := run_loadK S10.out.kind
        have hke := kind_eq r1 q1 t1 w10
        clear hb10
        refine hK _ _ ?_
        clear hK K
        try simp only [Act.put, List.getElem_toArray, List.getElem_cons_zero, List.getElem_cons_succ, List.setIfInBounds_toArray, List.set_cons_zero, List.set_cons_succ]
        refine wpAny_ready (rs := [15]) (by kernel_rfl) (by simp) ?_
        refine AllReady.cons rfl (fun K hK => ?_) AllReady.nil
        go_simp
        refine hK _ _ ?_
        clear hK K
        try simp only [Act.put, List.getElem_toArray, List.getElem_cons_zero, List.getElem_cons_succ, List.setIfInBounds_toArray, List.set_cons_zero, List.set_cons_succ]
        refine wpAny_take (i := 16) (v := ?tv12) rfl (by kernel_rfl) (by kernel_rfl) (by kernel_rfl) (fun _ _ _ h => h) (Or.inl ⟨by rfl, ?th12⟩) ?tr12
        case th12 => (intro w; go_simp; all_goals (with_reducible rfl))
        simp only [Act.put, List.getElem_toArray, List.getElem_cons_zero, List.getElem_cons_succ, List.setIfInBounds_toArray, List.set_cons_zero, List.set_cons_succ]
        refine wpAny_take (i := 17) (v := ?tv13) rfl (by kernel_rfl) (by kernel_rfl) (by kernel_rfl) (fun _ _ _ h => h) (Or.inl ⟨by rfl, ?th13⟩) ?tr13
        case th13 => (intro w; go_simp; all_goals (with_reducible rfl))
        simp only [Act.put, List.getElem_toArray, List.getElem_cons_zero, List.getElem_cons_succ, List.setIfInBounds_toArray, List.set_cons_zero, List.set_cons_succ]
        refine wpAny_take (i := 18) (v := ?tv14) rfl (by kernel_rfl) (by kernel_rfl) (by kernel_rfl) (fun _ _ _ h => h) (Or.inl ⟨by rfl, ?th14⟩) ?tr14
        case th14 => (intro w; go_simp; all_goals (with_reducible rfl))
        simp only [Act.put, List.getElem_toArray, List.getElem_cons_zero, List.getElem_cons_succ, List.setIfInBounds_toArray, List.set_cons_zero, List.set_cons_succ]
        refine wpAny_take (i := 19) (v := ?tv15) rfl (by kernel_rfl) (by kernel_rfl) (by kernel_rfl) (fun _ _ _ h => h) (Or.inl ⟨by rfl, ?th15⟩) ?tr15
        case th15 => (intro w; go_simp; all_goals (with_reducible rfl))
        simp only [Act.put, List.getElem_toArray, List.getElem_cons_zero, List.getElem_cons_succ, List.setIfInBounds_toArray, List.set_cons_zero, List.set_cons_succ]
        refine wpAny_take (i := 20) (v := ?tv16) rfl (by kernel_rfl) (by kernel_rfl) (by kernel_rfl) (fun _ _ _ h => h) (Or.inl ⟨by rfl, ?th16⟩) ?tr16
        case th16 => (intro w; go_simp; all_goals (with_reducible rfl))
        simp only [Act.put, List.getElem_toArray, List.getElem_cons_zero, List.getElem_cons_succ, List.setIfInBounds_toArray, List.set_cons_zero, List.set_cons_succ]
        refine wpAny_take (i := 21) (v := ?tv17) rfl (by kernel_rfl) (by kernel_rfl) (by kernel_rfl) (fun _ _ _ h => h) (Or.inl ⟨by rfl, ?th17⟩) ?tr17
        case th17 => (intro w; go_simp; all_goals (with_reducible rfl))
        simp only [Act.put, List.getElem_toArray, List.getElem_cons_zero, List.getElem_cons_succ, List.setIfInBounds_toArray, List.set_cons_zero, List.set_cons_succ]
        refine wpAny_done (by kernel_rfl) ?_ _
        go_wp2_with fail
        go_ret
        exact ⟨rfl, S10.out.bel⟩
      · skip
        go_simp
        refine (K10.out _ (H.out.below S9.out.bel)).mono ?_
        rintro r w10 ⟨rfl, hb10⟩
        have S10 := hid (S9.out.below hb10)
        have lk10 := run_loadK S10.out.kind
        have hke := kind_eq r1 q1 t1 w10
        clear hb10
        refine hK _ _ ?_
        clear hK K
        try simp only [Act.put, List.getElem_toArray, List.getElem_cons_zero, List.getElem_cons_succ, List.setIfInBounds_toArray, List.set_cons_zero, List.set_cons_succ]
        refine wpAny_ready (rs := [12]) (by kernel_rfl) (by simp) ?_
        refine AllReady.cons rfl (fun K hK => ?_) AllReady.nil
        go_simp
        refine hK _ _ ?_
        clear hK K
        try simp only [Act.put, List.getElem_toArray, List.getElem_cons_zero, List.getElem_cons_succ, List.setIfInBounds_toArray, List.set_cons_zero, List.set_cons_succ]
        refine wpAny_ready (rs := [15]) (by kernel_rfl) (by simp) ?_
        refine AllReady.cons rfl (fun K hK => ?_) AllReady.nil
        go_simp
        refine hK _ _ ?_
        clear hK K
        try simp only [Act.put, List.getElem_toArray, List.getElem_cons_zero, List.getElem_cons_succ, List.setIfInBounds_toArray, List.set_cons_zero, List.set_cons_succ]
        refine wpAny_take (i := 16) (v := ?tv18) rfl (by kernel_rfl) (by kernel_rfl) (by kernel_rfl) (fun _ _ _ h => h) (Or.inl ⟨by rfl, ?th18⟩) ?tr18
        case th18 => (intro w; go_simp; all_goals (with_reducible rfl))
        simp only [Act.put, List.getElem_toArray, List.getElem_cons_zero, List.getElem_cons_succ, List.setIfInBounds_toArray, List.set_cons_zero, List.set_cons_succ]
        refine wpAny_take (i := 17) (v := ?tv19) rfl (by kernel_rfl) (by kernel_rfl) (by kernel_rfl) (fun _ _ _ h => h) (Or.inl ⟨by rfl, ?th19⟩) ?tr19
        case th19 => (intro w; go_simp; all_goals (with_reducible rfl))
        simp only [Act.put, List.getElem_toArray, List.getElem_cons_zero, List.getElem_cons_succ, List.setIfInBounds_toArray, List.set_cons_zero, List.set_cons_succ]
        refine wpAny_take (i := 18) (v := ?tv20) rfl (by kernel_rfl) (by kernel_rfl) (by kernel_rfl) (fun _ _ _ h => h) (Or.inl ⟨by rfl, ?th20⟩) ?tr20
        case th20 => (intro w; go_simp; all_goals (with_reducible rfl))
        simp only [Act.put, List.getElem_toArray, List.getElem_cons_zero, List.getElem_cons_succ, List.setIfInBounds_toArray, List.set_cons_zero, List.set_cons_succ]
        refine wpAny_take (i := 19) (v := ?tv21) rfl (by kernel_rfl) (by kernel_rfl) (by kernel_rfl) (fun _ _ _ h => h) (Or.inl ⟨by rfl, ?th21⟩) ?tr21
        case th21 => (intro w; go_simp; all_goals (with_reducible rfl))
        simp only [Act.put, List.getElem_toArray, List.getElem_cons_zero, List.getElem_cons_succ, List.setIfInBounds_toArray, List.set_cons_zero, List.set_cons_succ]
        refine wpAny_take (i := 20) (v := ?tv22) rfl (by kernel_rfl) (by kernel_rfl) (by kernel_rfl) (fun _ _ _ h => h) (Or.inl ⟨by rfl, ?th22⟩) ?tr22
        case th22 => (intro w; go_simp; all_goals (with_reducible rfl))
        simp only [Act.put, List.getElem_toArray, List.getElem_cons_zero, List.getElem_cons_succ, List.setIfInBounds_toArray, List.set_cons_zero, List.set_cons_succ]
        refine wpAny_take (i := 21) (v := ?tv23) rfl (by kernel_rfl) (by kernel_rfl) (by kernel_rfl) (fun _ _ _ h => h) (Or.inl ⟨by rfl, ?th23⟩) ?tr23
        case th23 => (intro w; go_simp; all_goals (with_reducible rfl))
        simp only [Act.put, List.getElem_toArray, List.getElem_cons_zero, List.getElem_cons_succ, List.setIfInBounds_toArray, List.set_cons_zero, List.set_cons_succ]
        refine wpAny_done (by kernel_rfl) ?_ _
        go_wp2_with fail
        go_ret
        exact ⟨rfl, S10.out.bel⟩
    | false =>
      have hz : z1 = 11 := HZ2.out
      subst hz
      obtain rfl := HSN.out rfl
      clear HZ2 HSN K7 P6 hsl
      simp only [List.length_nil]
      go_upto_region 11 with fail
      have S7 := S6
      clear S6
      refine wp_region_any (by kernel_rfl) ?_
      change wpAny _ _ _ _ _ _ _ (World.drew _)
      refine wpAny_take (i := 0) (v := ?tv24) rfl (by kernel_rfl) (by kernel_rfl) (by kernel_rfl) (fun _ _ _ h => h) (Or.inl ⟨by rfl, ?th24⟩) ?tr24
      case th24 => (intro w; go_simp; all_goals (with_reducible rfl))
      simp only [Act.put, List.getElem_toArray, List.getElem_cons_zero, List.setIfInBounds_toArray, List.set_cons_zero, List.set_cons_succ]
      refine wpAny_take (i := 1) (v := ?tv25) rfl (by kernel_rfl) (by kernel_rfl) (by kernel_rfl) (fun _ _ _ h => h) (Or.inl ⟨by rfl, ?th25⟩) ?tr25
      case th25 => (intro w; go_simp; all_goals (with_reducible rfl))
      simp only [Act.put, List.getElem_toArray, List.getElem_cons_zero, List.getElem_cons_succ, List.setIfInBounds_toArray, List.set_cons_zero, List.set_cons_succ]
      refine wpAny_ready (rs := [2]) (by kernel_rfl) (by simp) ?_
      refine AllReady.cons rfl (fun K hK => ?_) AllReady.nil
      go_simp
      refine (K8.out _ (H.out.below S7.out.drew.bel)).mono ?_
      rintro r w8 ⟨v8, rfl, ho8, hb8⟩
      have S8 := hid (S7.out.drew.below hb8)
      obtain ⟨a8, c8, rfl, hp8, -⟩ := ho8.at_
      have P8 := hid hp8
      clear hb8 ho8 hp8 S7
      refine hK _ _ ?_
      clear hK K
      try simp only [Act.put, List.getElem_toArray, List.getElem_cons_zero, List.getElem_cons_succ, List.setIfInBounds_toArray, List.set_cons_zero, List.set_cons_succ]
      refine wpAny_ready (rs := [3]) (by kernel_rfl) (by simp) ?_
      refine AllReady.cons rfl (fun K hK => ?_) AllReady.nil
      go_simp
      refine (K9.out _ a2 a8 c2 c8 S8.out.p1 P8.out).mono ?_
      rintro r w9 ⟨rfl, hb9⟩
      have S9 := hid (S8.out.below hb9)
      have lk9 := run_loadK S9.out.kind
      clear hb9 S8 P8
      refine hK _ _ ?_
      clear hK K
      try simp only [Act.put, List.getElem_toArray, List.getElem_cons_zero, List.getElem_cons_succ, List.setIfInBounds_toArray, List.set_cons_zero, List.set_cons_succ]
      refine wpAny_take (i := 4) (v := ?tv26) rfl (by kernel_rfl) (by kernel_rfl) (by kernel_rfl) (fun _ _ _ h => h) (Or.inl ⟨by rfl, ?th26⟩) ?tr26
      case th26 => (intro w; go_simp; all_goals (with_reducible rfl))
      simp only [Act.put, List.getElem_toArray, List.getElem_cons_zero, List.getElem_cons_succ, List.setIfInBounds_toArray, List.set_cons_zero, List.set_cons_succ]
      refine wpAny_take (i := 5) (v := ?tv27) rfl (by kernel_rfl) (by kernel_rfl) (by kernel_rfl) (fun _ _ _ h => h) (Or.inl ⟨by rfl, ?th27⟩) ?tr27
      case th27 => (intro w; go_simp; all_goals (with_reducible rfl))
      simp only [Act.put, List.getElem_toArray, List.getElem_cons_zero, List.getElem_cons_succ, List.setIfInBounds_toArray, List.set_cons_zero, List.set_cons_succ]
      refine wpAny_take (i := 6) (v := ?tv28) rfl (by kernel_rfl) (by kernel_rfl) (by kernel_rfl) (fun _ _ _ h => h) (Or.inl ⟨by rfl, ?th28⟩) ?tr28
      case th28 => (intro w; go_simp; all_goals (with_reducible rfl))
      simp only [Act.put, List.getElem_toArray, List.getElem_cons_zero, List.getElem_cons_succ, List.setIfInBounds_toArray, List.set_cons_zero, List.set_cons_succ]
      refine wpAny_take (i := 7) (v := ?tv29) rfl (by kernel_rfl) (by kernel_rfl) (by kernel_rfl) (fun _ _ _ h => h) (Or.inl ⟨by rfl, ?th29⟩) ?tr29
      case th29 => (intro w; go_simp; all_goals (with_reducible rfl))
      simp only [Act.put, List.getElem_toArray, List.getElem_cons_zero, List.getElem_cons_succ, List.setIfInBounds_toArray, List.set_cons_zero, List.set_cons_succ]
      refine wpAny_take (i := 8) (v := ?tv30) rfl (by kernel_rfl) (by kernel_rfl) (by kernel_rfl) (fun _ _ _ h => h) (Or.inl ⟨by rfl, ?th30⟩) ?tr30
      case th30 => (intro w; go_simp; all_goals (with_reducible rfl))
      simp only [Act.put, List.getElem_toArray, List.getElem_cons_zero, List.getElem_cons_succ, List.setIfInBounds_toArray, List.set_cons_zero, List.set_cons_succ]
      refine wpAny_take (i := 9) (v := ?tv31) rfl (by kernel_rfl) (by kernel_rfl) (by kernel_rfl) (fun _ _ _ h => h) (Or.inl ⟨by rfl, ?th31⟩) ?tr31
      case th31 => (intro w; go_simp; all_goals (with_reducible rfl))
      simp only [Act.put, List.getElem_toArray, List.getElem_cons_zero, List.getElem_cons_succ, List.setIfInBounds_toArray, List.set_cons_zero, List.set_cons_succ]
      refine wpAny_take (i := 10) (v := ?tv32) rfl (by kernel_rfl) (by kernel_rfl) (by kernel_rfl) (fun _ _ _ h => h) (Or.inl ⟨by rfl, ?th32⟩) ?tr32
      case th32 => (intro w; go_simp; all_goals (with_reducible rfl))
      simp only [Act.put, List.getElem_toArray, List.getElem_cons_zero, List.getElem_cons_succ, List.setIfInBounds_toArray, List.set_cons_zero, List.set_cons_succ]
      refine wpAny_take (i := 11) (v := ?tv33) rfl (by kernel_rfl) (by kernel_rfl) (by kernel_rfl) (fun _ _ _ h => h) (Or.inl ⟨by rfl, ?th33⟩) ?tr33
      case th33 => (intro w; go_simp; all_goals (with_reducible rfl))
      simp only [Act.put, List.getElem_toArray, List.getElem_cons_zero, List.getElem_cons_succ, List.setIfInBounds_toArray, List.set_cons_zero, List.set_cons_succ]
      refine wpAny_take (i := 13) (v := ?tv34) rfl (by kernel_rfl) (by kernel_rfl) (by kernel_rfl) (fun _ _ _ h => h) (Or.inl ⟨by rfl, ?th34⟩) ?tr34
      case th34 => (intro w; go_simp; all_goals (with_reducible rfl))
      simp only [Act.put, List.getElem_toArray, List.getElem_cons_zero, List.getElem_cons_succ, List.setIfInBounds_toArray, List.set_cons_zero, List.set_cons_succ]
      refine wpAny_ready (rs := [12, 14]) (by kernel_rfl) (by simp) ?_
      refine AllReady.cons rfl (fun K hK => ?_) (AllReady.cons rfl (fun K hK => ?_) AllReady.nil)
      · skip
        go_simp
        refine hK _ _ ?_
        clear hK K
        try simp only [Act.put, List.getElem_toArray, List.getElem_cons_zero, List.getElem_cons_succ, List.setIfInBounds_toArray, List.set_cons_zero, List.set_cons_succ]
        refine wpAny_ready (rs := [14]) (by kernel_rfl) (by simp) ?_
        refine AllReady.cons rfl (fun K hK => ?_) AllReady.nil
        go_simp
        refine (K10.out _ (H.out.below S9.out.bel)).mono ?_
        rintro r w10 ⟨rfl, hb10⟩
        have S10 := hid (S9.out.below hb10)
        have lk10 := run_loadK S10.out.kind
        have hke := kind_eq r1 q1 t1 w10
        clear hb10
        refine hK _ _ ?_
        clear hK K
        try simp only [Act.put, List.getElem_toArray, List.getElem_cons_zero, List.getElem_cons_succ, List.setIfInBounds_toArray, List.set_cons_zero, List.set_cons_succ]
        refine wpAny_ready (rs := [15]) (by kernel_rfl) (by simp) ?_
        refine AllReady.cons rfl (fun K hK => ?_) AllReady.nil
        go_simp
        refine hK _ _ ?_
        clear hK K
        try simp only [Act.put, List.getElem_toArray, List.getElem_cons_zero, List.getElem_cons_succ, List.setIfInBounds_toArray, List.set_cons_zero, List.set_cons_succ]
        refine wpAny_take (i := 16) (v := ?tv35) rfl (by kernel_rfl) (by kernel_rfl) (by kernel_rfl) (fun _ _ _ h => h) (Or.inl ⟨by rfl, ?th35⟩) ?tr35
        case th35 => (intro w; go_simp; all_goals (with_reducible rfl))
        simp only [Act.put, List.getElem_toArray, List.getElem_cons_zero, List.getElem_cons_succ, List.setIfInBounds_toArray, List.set_cons_zero, List.set_cons_succ]
        refine wpAny_take (i := 17) (v := ?tv36) rfl (by kernel_rfl) (by kernel_rfl) (by kernel_rfl) (fun _ _ _ h => h) (Or.inl ⟨by rfl, ?th36⟩) ?tr36
        case th36 => (intro w; go_simp; all_goals (with_reducible rfl))
        simp only [Act.put, List.getElem_toArray, List.getElem_cons_zero, List.getElem_cons_succ, List.setIfInBounds_toArray, List.set_cons_zero, List.set_cons_succ]
        refine wpAny_take (i := 18) (v := ?tv37) rfl (by kernel_rfl) (by kernel_rfl) (by kernel_rfl) (fun _ _ _ h => h) (Or.inl ⟨by rfl, ?th37⟩) ?tr37
        case th37 => (intro w; go_simp; all_goals (with_reducible rfl))
        simp only [Act.put, List.getElem_toArray, List.getElem_cons_zero, List.getElem_cons_succ, List.setIfInBounds_toArray, List.set_cons_zero, List.set_cons_succ]
        refine wpAny_take (i := 19) (v := ?tv38) rfl (by kernel_rfl) (by kernel_rfl) (by kernel_rfl) (fun _ _ _ h => h) (Or.inl ⟨by rfl, ?th38⟩) ?tr38
        case th38 => (intro w; go_simp; all_goals (with_reducible rfl))
        simp only [Act.put, List.getElem_toArray, List.getElem_cons_zero, List.getElem_cons_succ, List.setIfInBounds_toArray, List.set_cons_zero, List.set_cons_succ]
        refine wpAny_take (i := 20) (v := ?tv39) rfl (by kernel_rfl) (by kernel_rfl) (by kernel_rfl) (fun _ _ _ h => h) (Or.inl ⟨by rfl, ?th39⟩) ?tr39
        case th39 => (intro w; go_simp; all_goals (with_reducible rfl))
        simp only [Act.put, List.getElem_toArray, List.getElem_cons_zero, List.getElem_cons_succ, List.setIfInBounds_toArray, List.set_cons_zero, List.set_cons_succ]
        refine wpAny_take (i := 21) (v := ?tv40) rfl (by kernel_rfl) (by kernel_rfl) (by kernel_rfl) (fun _ _ _ h => h) (Or.inl ⟨by rfl, ?th40⟩) ?tr40
        case th40 => (intro w; go_simp; all_goals (with_reducible rfl))
        simp only [Act.put, List.getElem_toArray, List.getElem_cons_zero, List.getElem_cons_succ, List.setIfInBounds_toArray, List.set_cons_zero, List.set_cons_succ]
        refine wpAny_done (by kernel_rfl) ?_ _
        go_wp2_with fail
        go_ret
        exact ⟨rfl, S10.out.bel⟩
      · skip
        go_simp
        refine (K10.out _ (H.out.below S9.out.bel)).mono ?_
        rintro r w10 ⟨rfl, hb10⟩
        have S10 := hid (S9.out.below hb10)
        have lk10 := run_loadK S10.out.kind
        have hke := kind_eq r1 q1 t1 w10
        clear hb10
        refine hK _ _ ?_
        clear hK K
        try simp only [Act.put, List.getElem_toArray, List.getElem_cons_zero, List.getElem_cons_succ, List.setIfInBounds_toArray, List.set_cons_zero, List.set_cons_succ]
        refine wpAny_ready (rs := [12]) (by kernel_rfl) (by simp) ?_
        refine AllReady.cons rfl (fun K hK => ?_) AllReady.nil
        go_simp
        refine hK _ _ ?_
        clear hK K
        try simp only [Act.put, List.getElem_toArray, List.getElem_cons_zero, List.getElem_cons_succ, List.setIfInBounds_toArray, List.set_cons_zero, List.set_cons_succ]
        refine wpAny_ready (rs := [15]) (by kernel_rfl) (by simp) ?_
        refine AllReady.cons rfl (fun K hK => ?_) AllReady.nil
        go_simp
        refine hK _ _ ?_
        clear hK K
        try simp only [Act.put, List.getElem_toArray, List.getElem_cons_zero, List.getElem_cons_succ, List.setIfInBounds_toArray, List.set_cons_zero, List.set_cons_succ]
        refine wpAny_take (i := 16) (v := ?tv41) rfl (by kernel_rfl) (by kernel_rfl) (by kernel_rfl) (fun _ _ _ h => h) (Or.inl ⟨by rfl, ?th41⟩) ?tr41
        case th41 => (intro w; go_simp; all_goals (with_reducible rfl))
        simp only [Act.put, List.getElem_toArray, List.getElem_cons_zero, List.getElem_cons_succ, List.setIfInBounds_toArray, List.set_cons_zero, List.set_cons_succ]
        refine wpAny_take (i := 17) (v := ?tv42) rfl (by kernel_rfl) (by kernel_rfl) (by kernel_rfl) (fun _ _ _ h => h) (Or.inl ⟨by rfl, ?th42⟩) ?tr42
        case th42 => (intro w; go_simp; all_goals (with_reducible rfl))
        simp only [Act.put, List.getElem_toArray, List.getElem_cons_zero, List.getElem_cons_succ, List.setIfInBounds_toArray, List.set_cons_zero, List.set_cons_succ]
        refine wpAny_take (i := 18) (v := ?tv43) rfl (by kernel_rfl) (by kernel_rfl) (by kernel_rfl) (fun _ _ _ h => h) (Or.inl ⟨by rfl, ?th43⟩) ?tr43
        case th43 => (intro w; go_simp; all_goals (with_reducible rfl))
        simp only [Act.put, List.getElem_toArray, List.getElem_cons_zero, List.getElem_cons_succ, List.setIfInBounds_toArray, List.set_cons_zero, List.set_cons_succ]
        refine wpAny_take (i := 19) (v := ?tv44) rfl (by kernel_rfl) (by kernel_rfl) (by kernel_rfl) (fun _ _ _ h => h) (Or.inl ⟨by rfl, ?th44⟩) ?tr44
        case th44 => (intro w; go_simp; all_goals (with_reducible rfl))
        simp only [Act.put, List.getElem_toArray, List.getElem_cons_zero, List.getElem_cons_succ, List.setIfInBounds_toArray, List.set_cons_zero, List.set_cons_succ]
        refine wpAny_take (i := 20) (v := ?tv45) rfl (by kernel_rfl) (by kernel_rfl) (by kernel_rfl) (fun _ _ _ h => h) (Or.inl ⟨by rfl, ?th45⟩) ?tr45
        case th45 => (intro w; go_simp; all_goals (with_reducible rfl))
        simp only [Act.put, List.getElem_toArray, List.getElem_cons_zero, List.getElem_cons_succ, List.setIfInBounds_toArray, List.set_cons_zero, List.set_cons_succ]
        refine wpAny_take (i := 21) (v := ?tv46) rfl (by kernel_rfl) (by kernel_rfl) (by kernel_rfl) (fun _ _ _ h => h) (Or.inl ⟨by rfl, ?th46⟩) ?tr46
        case th46 => (intro w; go_simp; all_goals (with_reducible rfl))
        simp only [Act.put, List.getElem_toArray, List.getElem_cons_zero, List.getElem_cons_succ, List.setIfInBounds_toArray, List.set_cons_zero, List.set_cons_succ]
        refine wpAny_done (by kernel_rfl) ?_ _
        go_wp2_with fail
        go_ret
        exact ⟨rfl, S10.out.bel⟩
end Go.Proofs.Ytlhkkhojfndoiab.PRun
