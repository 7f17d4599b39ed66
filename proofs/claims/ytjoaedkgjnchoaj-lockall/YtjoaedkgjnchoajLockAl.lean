/- quirkeep.LockAll, walked: when all have dropped everything nothing is held, and who waits has an edge to someone: it returns true, and nothing that was there has turned. Conditions: the operations lie where their slice says; a length that an int holds. -/
import Derived.Test.YtjoaedkgjnchoajLockSaf
import Derived.Test.YtjoaedkgjnchoajLockWts
import Derived.Test.YtjoaedkgjnchoajLockEqG
import Derived.Test.YtjoaedkgjnchoajGraphIdx
namespace Go.Proofs.Ytjoaedkgjnchoaj.PLock
open Go Go.RowKit PPool PGraph
set_option maxRecDepth 100000

theorem isFrom_any (w : World) (f t : Int) (q : Addr) (x : Int) (h : w.cell? q = some (.int .i64 x)) :
    Calls Try.prog 13 (#[.agg #[.int .i64 f, .int .i64 t]] ++ #[.pointer (some q)]) w fun e w' => e = .returned (.bool (decide (f = x))) ∧ Below w.heap.size w w' := by
  show Calls Try.prog 13 #[.agg #[.int .i64 f, .int .i64 t], .pointer (some q)] w _
  have h2 : ∀ T, (w.alloc (.cells #[.int .i64 f, .int .i64 t] T)).cell? q = some (.int .i64 x) := fun T => keep1 (bx _ _) h
  go_enter Try.func13, Try.ntmps13
  go_wp2_with fail
  go_ret
  exact ⟨rfl, bx _ _⟩
theorem from_some {T : List Lk.It} (h : Lk.Good T) {x : Lk.It} (hx : x ∈ T) {l : Lk.Lo} (hl : l ∈ x.q) : (Lk.waits T).any (fun e => decide (e.f = l.x)) = true := by
  obtain ⟨e, he, hf⟩ := Lk.waits_all h hx hl
  exact List.any_eq_true.2 ⟨e, he, decide_eq_true hf⟩
/-- One holds a lock shared; another waits for it alone. -/
def two1 : List Lk.It := askV [] 1 1 3
def two2 : List Lk.It := askV two1 2 1 5
theorem two_said : askE [] 1 1 3 = 0 ∧ askE two1 2 1 5 = 0 ∧ askO two1 2 1 5 = false ∧ Lk.check two2 = 0 ∧ two1.length = 1 ∧ two2.length = 1 ∧ Lk.waits two2 = [⟨2, 1⟩] := by decide +kernel
theorem drop_said {T : List Lk.It} (h : Lk.Good T) {k : Nat} (hk : k < 12) : dropE T k = 0 ∧ dropV T k = Lk.dropT T k := by
  have e : dropE T k = 0 := by
    unfold dropE
    rw [if_neg (fun c => c (Lk.check_zero.2 h)), if_pos (Lk.tx_iff.2 ⟨by omega, by omega⟩)]
  exact ⟨e, by unfold dropV; rw [if_pos e]⟩

set_option maxHeartbeats 8000000 in
theorem all_walk (w : World) (a : Option Addr) (c : Nat) (X : List PRun.Rn.Op) (h : PRun.OpAt w a X) (hl : X.length ≤ 9223372036854775807) (_hcap : X.length ≤ c) :
    Calls Try.prog 4 #[.slice a X.length c] w fun e w' => e = .returned (.bool true) ∧ Below w.heap.size w w' := by
  have H := hid h
  have KA := hid fun W a c T t i m h hl => ask2_any W a c T t i m h hl
  have KD := hid fun W a c T t h hl => drop_any W a c T t h hl
  have KW := hid fun W a c T h hl => waits_any W a c T h hl
  have KR := hid fun W n => rest_any n 5 W (by decide) (by decide)
  clear h
  go_enter Try.func4, Try.ntmps4
  go_wp2_with fail
  go_loopw [3, 26] (fun tv j wr => ∃ (k : Nat) (V : Value) (T : List Lk.It), k ≤ X.length ∧ V = tv ∧ j = .int .i64 (k : Int) ∧ Hid (TbIn wr w.heap.size V T) ∧ Hid (Lk.Good T) ∧ Hid (Below w.heap.size w wr)) (fun _ j _ => X.length - (intOf j).toNat)
  case atStart => exact ⟨0, _, [], Nat.zero_le _, rfl, rfl, TbIn.nil _ _, Lk.Good.nil, Below.refl _ _⟩
  case round =>
    obtain ⟨k, V, T, hk, rfl, rfl, hT, hG, hb⟩ := hrel
    obtain ⟨av, cv, rfl, hAt, _⟩ := hT.out.at_
    have l20 := hG.out.len
    have HAT := hid hAt
    clear hAt
    by_cases hlt : k < X.length
    · obtain ⟨x, hx⟩ : ∃ x, X[k]? = some x := ⟨_, List.getElem?_eq_getElem hlt⟩
      obtain ⟨b, o, rfl, d0, d1, d2⟩ := (H.out.below hb.out) k x hx
      have k0 : (0 : Int) ≤ (k : Int) := by omega
      have k1 : (k : Int) < (X.length : Int) := by omega
      obtain ⟨xt, xk, xi⟩ := x
      simp only at d0 d1 d2
      obtain ⟨W0, hW0⟩ : ∃ W0, W0 = wr.alloc (.cells #[.int .i64 xt, .int .i64 xk, .int .i64 xi] 29) := ⟨_, rfl⟩
      obtain ⟨B, hB⟩ : ∃ B, B = wr.heap.size := ⟨_, rfl⟩
      have SB : Hid (∀ W, Below W0.heap.size W0 W → W.cell? ⟨B, 0, none⟩ = some (.int .i64 xt) ∧ W.cell? ⟨B, 1, none⟩ = some (.int .i64 xk) ∧ W.cell? ⟨B, 2, none⟩ = some (.int .i64 xi)) := fun W hW => by rw [hW0] at hW; rw [hB]; exact ibox hW
      have B0 : Hid (Below wr.heap.size wr W0) := by show Below _ _ _; rw [hW0]; exact bx _ _
      have BD : Below W0.heap.size W0 W0.drew := (Below.refl _ _).drew
      have HW0 := hid hW0
      have HB := hid hB
      have r0 : 0 ≤ xk % 5 := by omega
      have r1 : xk % 5 < 5 := by omega
      have hw5 : IntKind.i64.wrap (xk % 5 + 1) = xk % 5 + 1 := IntWalk.i64_in _ ⟨by omega, by omega⟩
      have T0 : ∀ W, Below W0.heap.size W0 W → TbAt W av T := fun W hW => HAT.out.below (below_tr B0.out hW)
      have HT0 := hid T0
      have KR1 := hid fun W => KR.out W xk
      obtain ⟨m, hm⟩ : ∃ m, m = xk % 5 := ⟨_, rfl⟩
      rw [← hm] at KR1 hw5 r0 r1
      clear hx hW0 hB T0 hm
      obtain ⟨n, hn⟩ : ∃ n, n = T.length := ⟨_, rfl⟩
      rw [← hn] at hT ⊢
      have HN := hid hn
      clear hn
      have KA1 := hid fun W hW => KA.out W av cv T xt xi (m + 1) (HT0.out W hW) (by omega)
      rw [← HN.out] at KA1
      go_upto_region 5 with fail
      rw [← HW0.out, ← HB.out]
      go_cut [6, 8] from 30 to 43 (fun u e wx => ∃ V2, V2 = u ∧ e = .int .i64 (askE T xt xi (m + 1)) ∧ Hid (TbIn wx w.heap.size V2 (askV T xt xi (m + 1)) ∧ Below W0.heap.size W0 wx))
      case first =>
        refine wp_region_held_drew (S := fun W => W.cell? ⟨B, 0, none⟩ = some (.int .i64 xt) ∧ W.cell? ⟨B, 1, none⟩ = some (.int .i64 xk) ∧ W.cell? ⟨B, 2, none⟩ = some (.int .i64 xi)) (by kernel_rfl) (SB.out _ BD) (fun hHeld => ?_)
        refine wpAnyH_take (i := 0) (v := ?tv1) rfl (by kernel_rfl) (by kernel_rfl) (by kernel_rfl) (fun _ _ _ h => h) (Or.inl ⟨by rfl, ?th1⟩) (by assumption) ?tr1
        case th1 => (intro w hSw; (try dsimp only at hSw); go_simp; all_goals (with_reducible rfl))
        simp only [Act.put, List.getElem_toArray, List.getElem_cons_zero, List.setIfInBounds_toArray, List.set_cons_zero, List.set_cons_succ]
        refine wpAnyH_take (i := 1) (v := ?tv2) rfl (by kernel_rfl) (by kernel_rfl) (by kernel_rfl) (fun _ _ _ h => h) (Or.inl ⟨by rfl, ?th2⟩) (by assumption) ?tr2
        case th2 => (intro w hSw; (try dsimp only at hSw); go_simp; all_goals (with_reducible rfl))
        simp only [Act.put, List.getElem_toArray, List.getElem_cons_zero, List.getElem_cons_succ, List.setIfInBounds_toArray, List.set_cons_zero, List.set_cons_succ]
        refine wpAnyH_take (i := 2) (v := ?tv3) rfl (by kernel_rfl) (by kernel_rfl) (by kernel_rfl) (fun _ _ _ h => h) (Or.inl ⟨by rfl, ?th3⟩) (by assumption) ?tr3
        case th3 => (intro w hSw; (try dsimp only at hSw); go_simp; all_goals (with_reducible rfl))
        simp only [Act.put, List.getElem_toArray, List.getElem_cons_zero, List.getElem_cons_succ, List.setIfInBounds_toArray, List.set_cons_zero, List.set_cons_succ]
        refine wpAnyH_take (i := 3) (v := ?tv4) rfl (by kernel_rfl) (by kernel_rfl) (by kernel_rfl) (fun _ _ _ h => h) (Or.inl ⟨by rfl, ?th4⟩) (by assumption) ?tr4
        case th4 => (intro w hSw; (try dsimp only at hSw); go_simp; all_goals (with_reducible rfl))
        simp only [Act.put, List.getElem_toArray, List.getElem_cons_zero, List.getElem_cons_succ, List.setIfInBounds_toArray, List.set_cons_zero, List.set_cons_succ]
        refine wpAnyH_take (i := 4) (v := ?tv5) rfl (by kernel_rfl) (by kernel_rfl) (by kernel_rfl) (fun _ _ _ h => h) (Or.inl ⟨by rfl, ?th5⟩) (by assumption) ?tr5
        case th5 => (intro w hSw; (try dsimp only at hSw); go_simp; all_goals (with_reducible rfl))
        simp only [Act.put, List.getElem_toArray, List.getElem_cons_zero, List.getElem_cons_succ, List.setIfInBounds_toArray, List.set_cons_zero, List.set_cons_succ]
        refine wpAnyH_take (i := 5) (v := ?tv6) rfl (by kernel_rfl) (by kernel_rfl) (by kernel_rfl) (fun _ _ _ h => h) (Or.inl ⟨by rfl, ?th6⟩) (by assumption) ?tr6
        case th6 => (intro w hSw; (try dsimp only at hSw); go_simp; all_goals (with_reducible rfl))
        simp only [Act.put, List.getElem_toArray, List.getElem_cons_zero, List.getElem_cons_succ, List.setIfInBounds_toArray, List.set_cons_zero, List.set_cons_succ]
        refine wpAnyH_take (i := 6) (v := ?tv7) rfl (by kernel_rfl) (by kernel_rfl) (by kernel_rfl) (fun _ _ _ h => h) (Or.inl ⟨by rfl, ?th7⟩) (by assumption) ?tr7
        case th7 => (intro w hSw; (try dsimp only at hSw); go_simp; all_goals (with_reducible rfl))
        simp only [Act.put, List.getElem_toArray, List.getElem_cons_zero, List.getElem_cons_succ, List.setIfInBounds_toArray, List.set_cons_zero, List.set_cons_succ]
        refine wpAnyH_ready (rs := [7]) (by kernel_rfl) (by simp) ?_
        refine AllReadyH.cons rfl (fun K hK => ?_) AllReadyH.nil
        go_simp
        refine (KR1.out _).mono ?_
        rintro r v7 ⟨rfl, hw7⟩
        obtain rfl := hw7.symm
        refine hK.out _ _ (SB.out _ BD) (fun hHeld => ?_)
        clear hK K
        try simp only [Act.put, List.getElem_toArray, List.getElem_cons_zero, List.getElem_cons_succ, List.setIfInBounds_toArray, List.set_cons_zero, List.set_cons_succ]
        refine wpAnyH_take (i := 8) (v := ?tv8) rfl (by kernel_rfl) (by kernel_rfl) (by kernel_rfl) (fun _ _ _ h => h) (Or.inl ⟨by rfl, ?th8⟩) (by assumption) ?tr8
        case th8 => (intro w hSw; (try dsimp only at hSw); go_simp; all_goals (with_reducible rfl))
        simp only [Act.put, List.getElem_toArray, List.getElem_cons_zero, List.getElem_cons_succ, List.setIfInBounds_toArray, List.set_cons_zero, List.set_cons_succ]
        refine wpAnyH_ready (rs := [9]) (by kernel_rfl) (by simp) ?_
        refine AllReadyH.cons rfl (fun K hK => ?_) AllReadyH.nil
        go_simp
        refine (KA1.out _ BD).mono ?_
        rintro r v9 ⟨V2, rfl, t2, b2⟩
        have C2 : Below W0.heap.size W0 v9 := below_tr BD b2
        have T9 : Hid (TbIn v9 w.heap.size V2 (askV T xt xi (m + 1)) ∧ Below W0.heap.size W0 v9) := ⟨t2.lower (Nat.le_trans (below_tr hb.out B0.out).size BD.size), C2⟩
        clear t2 b2
        refine hK.out _ _ (SB.out _ C2) (fun hHeld => ?_)
        clear hK K
        try simp only [Act.put, List.getElem_toArray, List.getElem_cons_zero, List.getElem_cons_succ, List.setIfInBounds_toArray, List.set_cons_zero, List.set_cons_succ]
        refine wpAnyH_take (i := 10) (v := ?tv9) rfl (by kernel_rfl) (by kernel_rfl) (by kernel_rfl) (fun _ _ _ h => h) (Or.inl ⟨by rfl, ?th9⟩) (by assumption) ?tr9
        case th9 => (intro w hSw; (try dsimp only at hSw); go_simp; all_goals (with_reducible rfl))
        simp only [Act.put, List.getElem_toArray, List.getElem_cons_zero, List.getElem_cons_succ, List.setIfInBounds_toArray, List.set_cons_zero, List.set_cons_succ]
        refine wpAnyH_take (i := 11) (v := ?tv10) rfl (by kernel_rfl) (by kernel_rfl) (by kernel_rfl) (fun _ _ _ h => h) (Or.inl ⟨by rfl, ?th10⟩) (by assumption) ?tr10
        case th10 => (intro w hSw; (try dsimp only at hSw); go_simp; all_goals (with_reducible rfl))
        simp only [Act.put, List.getElem_toArray, List.getElem_cons_zero, List.getElem_cons_succ, List.setIfInBounds_toArray, List.set_cons_zero, List.set_cons_succ]
        refine wpAnyH_take (i := 12) (v := ?tv11) rfl (by kernel_rfl) (by kernel_rfl) (by kernel_rfl) (fun _ _ _ h => h) (Or.inl ⟨by rfl, ?th11⟩) (by assumption) ?tr11
        case th11 => (intro w hSw; (try dsimp only at hSw); go_simp; all_goals (with_reducible rfl))
        simp only [Act.put, List.getElem_toArray, List.getElem_cons_zero, List.getElem_cons_succ, List.setIfInBounds_toArray, List.set_cons_zero, List.set_cons_succ]
        refine wpAnyH_take (i := 13) (v := ?tv12) rfl (by kernel_rfl) (by kernel_rfl) (by kernel_rfl) (fun _ _ _ h => h) (Or.inl ⟨by rfl, ?th12⟩) (by assumption) ?tr12
        case th12 => (intro w hSw; (try dsimp only at hSw); go_simp; all_goals (with_reducible rfl))
        simp only [Act.put, List.getElem_toArray, List.getElem_cons_zero, List.getElem_cons_succ, List.setIfInBounds_toArray, List.set_cons_zero, List.set_cons_succ]
        refine wpAnyH_take (i := 14) (v := ?tv13) rfl (by kernel_rfl) (by kernel_rfl) (by kernel_rfl) (fun _ _ _ h => h) (Or.inl ⟨by rfl, ?th13⟩) (by assumption) ?tr13
        case th13 => (intro w hSw; (try dsimp only at hSw); go_simp; all_goals (with_reducible rfl))
        simp only [Act.put, List.getElem_toArray, List.getElem_cons_zero, List.getElem_cons_succ, List.setIfInBounds_toArray, List.set_cons_zero, List.set_cons_succ]
        refine wpAnyH_take (i := 15) (v := ?tv14) rfl (by kernel_rfl) (by kernel_rfl) (by kernel_rfl) (fun _ _ _ h => h) (Or.inl ⟨by rfl, ?th14⟩) (by assumption) ?tr14
        case th14 => (intro w hSw; (try dsimp only at hSw); go_simp; all_goals (with_reducible rfl))
        simp only [Act.put, List.getElem_toArray, List.getElem_cons_zero, List.getElem_cons_succ, List.setIfInBounds_toArray, List.set_cons_zero, List.set_cons_succ]
        refine wpAnyH_take (i := 16) (v := ?tv15) rfl (by kernel_rfl) (by kernel_rfl) (by kernel_rfl) (fun _ _ _ h => h) (Or.inl ⟨by rfl, ?th15⟩) (by assumption) ?tr15
        case th15 => (intro w hSw; (try dsimp only at hSw); go_simp; all_goals (with_reducible rfl))
        simp only [Act.put, List.getElem_toArray, List.getElem_cons_zero, List.getElem_cons_succ, List.setIfInBounds_toArray, List.set_cons_zero, List.set_cons_succ]
        refine wpAnyH_done (by kernel_rfl) ?_ _
        go_wp2_with fail
        go_meet
        exact ⟨V2, rfl, rfl, T9⟩
      case rest =>
        obtain ⟨V2, rfl, rfl, hX⟩ := hcut
        have BW : Hid (Below w.heap.size w wc) := below_tr hb.out (below_tr B0.out hX.out.2)
        have TW : Hid (TbIn wc w.heap.size (.slice av n cv) T) := hT.out.below (below_tr B0.out hX.out.2)
        clear KA1 KR1
        by_cases hz : askE T xt xi (m + 1) = 0
        · have HG2 := hid (askV_good hz)
          have T4 : Hid (TbIn wc w.heap.size V2 (askV T xt xi (m + 1))) := hX.out.1
          rw [hz]
          clear hz hX
          generalize askV T xt xi (m + 1) = U at *
          go_wp2_with fail
          go_roundw
          case rel => first
            | exact ⟨k + 1, _, U, by omega, rfl, by go_num, T4, HG2, BW⟩
            | ((repeat apply Exists.intro); exact ⟨⟨k + 1, _, U, by omega, rfl, by go_num, T4, HG2, BW⟩, rfl⟩)
          case measure => simp [intOf]; omega
        · have hz' : (askE T xt xi (m + 1) == 0) = false := by simpa using hz
          generalize askE T xt xi (m + 1) = de at *
          clear hz hX
          go_wp2_with fail
          go_roundw
          case rel => first
            | exact ⟨k + 1, _, T, by omega, rfl, by go_num, TW, hG, BW⟩
            | ((repeat apply Exists.intro); exact ⟨⟨k + 1, _, T, by omega, rfl, by go_num, TW, hG, BW⟩, rfl⟩)
          case measure => simp [intOf]; omega
    · obtain rfl : k = X.length := by omega
      have j3 : decide ((X.length : Int) < (X.length : Int)) = false := by simp
      have KW2 := hid (KW.out wr av cv T HAT.out (by omega))
      have e1 : waitsOf T = Lk.waits T := by unfold waitsOf; rw [if_pos (Lk.check_zero.2 hG.out)]
      rw [e1, Lk.check_zero.2 hG.out] at KW2
      obtain ⟨n, hn⟩ : ∃ n, n = T.length := ⟨_, rfl⟩
      rw [← hn] at KW2 hT ⊢
      have HN := hid hn
      have n20 : (n : Int) ≤ 20 := by omega
      clear hn e1 l20
      go_wp2_with fail
      refine KW2.out.mono ?_
      rintro r w2 ⟨V3, rfl, o3, b2⟩
      obtain ⟨a3, c3, rfl, hp3, _, o31, o32⟩ := o3.at_
      have hlE : (Lk.waits T).length ≤ 9223372036854775807 := by unfold maxLen at o32; omega
      have HE := hid hp3
      have B2 := hid (below_tr hb.out b2)
      have T2 := hid (hT.out.below b2)
      have HAT2 := hid (HAT.out.below b2)
      obtain ⟨ne, hne⟩ : ∃ n, n = (Lk.waits T).length := ⟨_, rfl⟩
      rw [← hne]
      have HNE := hid hne
      clear o3 b2 hp3 KW2 hT HAT hb hne o31 o32
      go_wp2_with fail
      go_loopw [57] (fun j wr2 => ∃ q : Nat, q ≤ n ∧ j = .int .i64 (q : Int) ∧ Hid (Below w2.heap.size w2 wr2)) (fun j _ => n - (intOf j).toNat)
      case atStart => exact ⟨0, Nat.zero_le _, rfl, Below.refl _ _⟩
      case round =>
        obtain ⟨q, hq, rfl, hb2⟩ := hrel
        by_cases hqn : q < n
        · obtain ⟨y, hy⟩ : ∃ y, T[q]? = some y := ⟨_, List.getElem?_eq_getElem (by have := HN.out; omega)⟩
          obtain ⟨b, o, vh, vq, e3, d0, d1, d2, lh, lq⟩ := (HAT2.out.below hb2.out) q y hy
          subst e3
          have q0 : (0 : Int) ≤ (q : Int) := by omega
          have q1 : (q : Int) < (n : Int) := by omega
          have hym := hid (List.mem_of_getElem? hy)
          have hr := (hG.out.it y hym.out).2.2
          have l12q := hr.rq.len
          obtain ⟨ah, ch, rfl, lh1, lh2, lh3, lh4⟩ := lh
          obtain ⟨aq, cq, rfl, lq1, lq2, lq3, lq4⟩ := lq
          obtain ⟨nq, hnq⟩ : ∃ n, n = y.q.length := ⟨_, rfl⟩
          have HNQ := hid hnq
          rw [← hnq] at d2
          have q12 : (nq : Int) ≤ 12 := by omega
          have HLQ := hid lq1
          have B5 : Hid (Below w2.heap.size w2 (wr.alloc (.cells #[.int .i64 y.i, .slice ah y.h.length ch, .slice aq nq cq] 37))) := below_tr hb2.out (bx _ _)
          have LQ5 : Hid (LkAt (wr.alloc (.cells #[.int .i64 y.i, .slice ah y.h.length ch, .slice aq nq cq] 37)) aq y.q) := lq1.below (bx _ _)
          clear hy hr lh1 lh2 lh3 lh4 lq1 lq2 lq3 lq4 hnq l12q
          go_wp2_with fail
          generalize hW5 : wr.alloc (.cells #[.int .i64 y.i, .slice ah y.h.length ch, .slice aq nq cq] 37) = w5 at *
          clear hW5 d0 d1 d2
          go_loopw [64] (fun j wr3 => ∃ p : Nat, p ≤ nq ∧ j = .int .i64 (p : Int) ∧ Hid (Below w5.heap.size w5 wr3)) (fun j _ => nq - (intOf j).toNat)
          case atStart => exact ⟨0, Nat.zero_le _, rfl, Below.refl _ _⟩
          case round =>
            obtain ⟨p, hp, rfl, hb3⟩ := hrel
            by_cases hpn : p < nq
            · obtain ⟨l, hl2⟩ : ∃ l, y.q[p]? = some l := ⟨_, List.getElem?_eq_getElem (by have := HNQ.out; omega)⟩
              obtain ⟨bm, om, e7, g1, g2⟩ := (LQ5.out.below hb3.out) p l hl2
              subst e7
              have p0 : (0 : Int) ≤ (p : Int) := by omega
              have p1 : (p : Int) < (nq : Int) := by omega
              have hA := from_some hG.out hym.out (List.mem_of_getElem? hl2)
              obtain ⟨lx, lm⟩ := l
              simp only at g1 g2 hA
              obtain ⟨W7, hW7⟩ : ∃ W7, W7 = wr.alloc (.cells #[.int .i64 lx, .int .i64 lm] 40) := ⟨_, rfl⟩
              have c7 : W7.cell? ⟨wr.heap.size, 0, none⟩ = some (.int .i64 lx) := by rw [hW7]; exact (box2 (Below.refl _ _)).1
              have b7 : Below wr.heap.size wr W7 := by rw [hW7]; exact bx _ _
              have B7 : Hid (Below w5.heap.size w5 W7) := below_tr hb3.out b7
              have KI := hid (hasE_any W7 a3 c3 (Lk.waits T) 13 #[.pointer (some ⟨wr.heap.size, 0, none⟩)] (fun e => decide (e.f = lx)) (fun args W => rfl) (fun W x _ hW => isFrom_any W x.f x.t ⟨wr.heap.size, 0, none⟩ lx (keep1 hW c7)) (HE.out.below (below_tr B5.out B7.out)) hlE)
              rw [hA, ← HNE.out] at KI
              have HW7 := hid hW7
              clear hl2 hA hW7 c7 b7
              go_upto_region 18 with fail
              rw [← HW7.out]
              clear HW7 g1 g2
              go_wp2_with fail
              refine KI.out.mono ?_
              rintro r w8 ⟨rfl, b8⟩
              have B8 := hid (below_tr B7.out b8)
              clear b8 KI
              go_wp2_with fail
              go_roundw
              case rel => first
                | exact ⟨p + 1, by omega, by go_num, B8⟩
                | ((repeat apply Exists.intro); exact ⟨⟨p + 1, by omega, by go_num, B8⟩, rfl⟩)
              case measure => simp [intOf]; omega
            · obtain rfl : p = nq := by omega
              have j4 : decide ((p : Int) < (p : Int)) = false := by simp
              have B8 := hid (below_tr B5.out hb3.out)
              go_wp2_with fail
              go_roundw
              case rel => exact ⟨q + 1, by omega, by go_num, B8⟩
              case measure => simp [intOf]; omega
        · obtain rfl : q = n := by omega
          have j4 : decide ((q : Int) < (q : Int)) = false := by simp
          have B4 := hid (below_tr B2.out hb2.out)
          have T4 := hid (T2.out.below hb2.out)
          clear HAT2 HE T2 HNE
          obtain ⟨f1, f2, f3, f4, f5, f6, f7⟩ := two_said
          have K1 := hid (KA.out wr none 0 [] 1 1 3 (TbAt.nil _ _) (by decide))
          rw [f1, show askV [] 1 1 3 = two1 from rfl] at K1
          generalize askO [] 1 1 3 = o1 at K1
          have F2 := hid f2
          have F3 := hid f3
          have F4 := hid f4
          have F5 := hid f5
          have F6 := hid f6
          have F7 := hid f7
          clear f1 f2 f3 f4 f5 f6 f7
          go_wp2_with fail
          refine K1.out.mono ?_
          rintro r w3 ⟨v1, rfl, t1, b1⟩
          obtain ⟨a1, c1, e1, hA1, _⟩ := t1.at_
          rw [F5.out] at e1
          subst e1
          have K2 := hid (KA.out w3 a1 c1 two1 2 1 5 hA1 (by rw [F5.out]; decide))
          rw [F5.out, F2.out, F3.out, show askV two1 2 1 5 = two2 from rfl] at K2
          have B5 := hid (below_tr B4.out b1)
          have T5 := hid (T4.out.below b1)
          clear t1 hA1 b1 K1 B4 T4
          go_wp2_with fail
          refine K2.out.mono ?_
          rintro r w4 ⟨v2, rfl, t2, b2⟩
          obtain ⟨a2, c2, e2, hA2, _⟩ := t2.at_
          rw [F6.out] at e2
          subst e2
          have K3 := hid (KW.out w4 a2 c2 two2 hA2 (by rw [F6.out]; decide))
          have e3 : waitsOf two2 = [⟨2, 1⟩] := by unfold waitsOf; rw [if_pos F4.out, F7.out]
          rw [F6.out, F4.out, e3] at K3
          have B6 := hid (below_tr B5.out b2)
          have T6 := hid (T5.out.below b2)
          clear t2 hA2 b2 K2 B5 T5 e3
          go_wp2_with fail
          refine K3.out.mono ?_
          rintro r w5 ⟨v3, rfl, o3, b3⟩
          obtain ⟨a4, c4, rfl, hp3, _⟩ := o3.at_
          obtain ⟨W5, hW5⟩ : ∃ W, W = w5.alloc (.cells #[.int .i64 2, .int .i64 1] 48) := ⟨_, rfl⟩
          have bW : Below w5.heap.size w5 W5 := by rw [hW5]; exact bx _ _
          have hp4 : PgAt W5 (some ⟨w5.heap.size, 0, none⟩) [⟨2, 1⟩] := by
            rw [hW5]
            intro j x hj
            cases j with
            | zero =>
              obtain rfl : (⟨2, 1⟩ : Gr.Ed) = x := Option.some.inj hj
              exact ⟨_, _, rfl, (box2 (Below.refl _ _)).1, (box2 (Below.refl _ _)).2⟩
            | succ j => cases hj
          have K4 := hid (equalE_any W5 a4 (some ⟨w5.heap.size, 0, none⟩) c4 1 [⟨2, 1⟩] [⟨2, 1⟩] (hp3.below bW) hp4 (by decide) (by decide))
          have e4 : decide (([⟨2, 1⟩] : List Gr.Ed) = [⟨2, 1⟩]) = true := by decide
          rw [e4] at K4
          have B7 := hid (below_tr (below_tr B6.out b3) bW)
          have T7 := hid ((T6.out.below b3).below bW)
          have HW5 := hid hW5
          have z1 : (([⟨2, 1⟩] : List Gr.Ed).length : Int) = 1 := rfl
          have z2 : ([⟨2, 1⟩] : List Gr.Ed).length = 1 := rfl
          rw [z2] at K4 ⊢
          clear o3 hp3 hp4 b3 K3 B6 T6 e4 bW hW5
          go_upto_region 25 with fail
          clear F2 F3 F4 F5 F6 F7
          go_wp2_with fail
          rw [← HW5.out]
          clear HW5
          refine K4.out.mono ?_
          rintro r w6 ⟨rfl, b6⟩
          have B8 := hid (below_tr B7.out b6)
          have T8 : Hid (TbIn w6 w.heap.size (.slice av q cv) (Lk.dropAll 0 T)) := T7.out.below b6
          have GD := hid fun k => (Lk.dropAll_good hG.out k).1
          have HD := hid fun k (hk : k < 12) => drop_said (GD.out k) hk
          have HL := hid (Lk.dropAll_none hG.out)
          have HNX := hid fun k => (show Lk.dropAll (k + 1) T = Lk.dropT (Lk.dropAll k T) k from rfl)
          generalize hD : (fun k => Lk.dropAll k T) = D at *
          have HDD := hid fun k => (show Lk.dropAll k T = D k by rw [← hD])
          rw [HDD.out] at T8 HL
          clear b6 K4 B7 T7 z1 z2 hD
          go_wp2_with fail
          go_loopw [3, 22, 110] (fun tv _ j wr => ∃ (k : Nat) (V : Value), k ≤ 12 ∧ V = tv ∧ j = .int .i64 (k : Int) ∧ Hid (TbIn wr w.heap.size V (D k)) ∧ Hid (Below w.heap.size w wr)) (fun _ _ j _ => 12 - (intOf j).toNat)
          case atStart => exact ⟨0, _, Nat.zero_le _, rfl, rfl, T8, B8⟩
          case round =>
            clear B8 T8
            obtain ⟨k, V, hk, rfl, rfl, hT, hb⟩ := hrel
            obtain ⟨av, cv, rfl, hAt, _⟩ := hT.out.at_
            by_cases hlt : k < 12
            · have k0 : (0 : Int) ≤ (k : Int) := by omega
              have k1 : (k : Int) < 12 := by omega
              have K5 := hid (KD.out wr av cv (D k) k hAt (by rw [← HDD.out]; have := (GD.out k).len; omega))
              have hd := HD.out k hlt
              rw [HDD.out] at hd
              have hn := HNX.out k
              rw [HDD.out, HDD.out] at hn
              rw [hd.1, hd.2, ← hn] at K5
              obtain ⟨n, hn⟩ : ∃ n, n = (D k).length := ⟨_, rfl⟩
              rw [← hn] at K5 ⊢
              clear hd hn hAt hT
              go_wp2_with fail
              refine K5.out.mono ?_
              rintro r w7 ⟨v7, vt, rfl, t7, _, b7⟩
              have B7 := hid (below_tr hb.out b7)
              have T7 : Hid (TbIn w7 w.heap.size v7 (D (k + 1))) := t7.lower hb.out.size
              clear t7 b7 K5
              go_wp2_with fail
              go_roundw
              case rel => first
                | exact ⟨k + 1, _, by omega, rfl, by go_num, T7, B7⟩
                | ((repeat apply Exists.intro); exact ⟨⟨k + 1, _, by omega, rfl, by go_num, T7, B7⟩, rfl⟩)
              case measure => simp [intOf]; omega
            · obtain rfl : k = 12 := by omega
              have j5 : (((D 12).length : Int) == 0) = true := by rw [HL.out]; rfl
              obtain ⟨n, hn⟩ : ∃ n, n = (D 12).length := ⟨_, rfl⟩
              rw [← hn] at j5 ⊢
              clear hn hAt hT
              go_wp2_with fail
              go_ret
              exact ⟨by rfl, hb.out⟩
end Go.Proofs.Ytjoaedkgjnchoaj.PLock
