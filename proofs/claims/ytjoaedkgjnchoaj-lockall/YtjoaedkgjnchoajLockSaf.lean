/- quirkeep.LockSafe, walked: whatever is asked for and dropped: it returns true, and nothing that was there has turned. Conditions: the operations lie where their slice says; a length that an int holds. -/
import Derived.Test.YtjoaedkgjnchoajLockAk
import Derived.Test.YtjoaedkgjnchoajLockCat
import Derived.Test.YtjoaedkgjnchoajLockCon
import Derived.Test.YtjoaedkgjnchoajLockRest
import Derived.Test.YtjoaedkgjnchoajRunMem
namespace Go.Proofs.Ytjoaedkgjnchoaj.PLock
open Go Go.RowKit PPool
set_option maxRecDepth 100000

theorem ask_zero {T : List Lk.It} {t i m : Int} (h : askE T t i m = 0) : Lk.check T = 0 ∧ (0 ≤ i ∧ i < 20) ∧ Lk.good1 ⟨t, m⟩ ∧ Lk.inQ T t = false := by
  unfold askE at h
  split at h
  · rename_i h1; exact absurd h h1
  · rename_i h1
    have h1 : Lk.check T = 0 := Classical.not_not.1 h1
    split at h
    · cases h
    · rename_i h2
      split at h
      · cases h
      · rename_i h3
        have h2 : (Lk.tx t && Lk.item i && Lk.mode m) = true := by
          cases e : (Lk.tx t && Lk.item i && Lk.mode m) with
          | true => rfl
          | false => exact absurd e h2
        rw [Bool.and_eq_true, Bool.and_eq_true] at h2
        have ht := Lk.tx_iff.1 h2.1.1
        have hi := Lk.item_iff.1 h2.1.2
        exact ⟨h1, hi, ⟨ht.1, ht.2, h2.2⟩, by cases e : Lk.inQ T t with | false => rfl | true => exact absurd e h3⟩
theorem askV_good {T : List Lk.It} {t i m : Int} (h : askE T t i m = 0) : Lk.Good (askV T t i m) := by
  obtain ⟨h1, h2, h3, h4⟩ := ask_zero h
  unfold askV
  rw [if_pos h]
  exact Lk.askT_good (Lk.check_zero.1 h1) h2 h3 h4
theorem drop_zero {T : List Lk.It} {t : Int} (h : dropE T t = 0) : Lk.check T = 0 ∧ 0 ≤ t ∧ t < 12 := by
  unfold dropE at h
  split at h
  · rename_i h1; exact absurd h h1
  · rename_i h1
    split at h
    · rename_i h2
      exact ⟨Classical.not_not.1 h1, Lk.tx_iff.1 h2⟩
    · cases h
theorem dropV_good {T : List Lk.It} {t : Int} (h : dropE T t = 0) : Lk.Good (dropV T t) := by
  unfold dropV
  rw [if_pos h]
  exact Lk.dropT_good (Lk.check_zero.1 (drop_zero h).1) t
/-- Asking first of all. -/
theorem ask_first : askE [] 3 4 5 = 0 ∧ askO [] 3 4 5 = true ∧ (askV [] 3 4 5).length = 1 := by decide

/-- What an operation does to a table. -/
def step (T : List Lk.It) (t k i : Int) : List Lk.It :=
  if k = 4 then (if dropE T t = 0 then dropV T t else T) else (if askE T t i (k % 5 + 1) = 0 then askV T t i (k % 5 + 1) else T)
theorem step_good {T : List Lk.It} (h : Lk.Good T) (t k i : Int) : Lk.Good (step T t k i) := by
  unfold step
  split
  · split
    · rename_i e; exact dropV_good e
    · exact h
  · split
    · rename_i e; exact askV_good e
    · exact h

set_option maxHeartbeats 8000000 in
theorem safe_walk (w : World) (a : Option Addr) (c : Nat) (X : List PRun.Rn.Op) (tx : Int) (h : PRun.OpAt w a X) (hl : X.length ≤ 9223372036854775807) (_hcap : X.length ≤ c) (_hwf : (Lit.int .i64 tx).wf = true) :
    Calls Try.prog 3 #[.slice a X.length c, .int .i64 tx] w fun e w' => e = .returned (.bool true) ∧ Below w.heap.size w w' := by
  have H := hid h
  have KA := hid fun W a c T t i m h hl => ask2_any W a c T t i m h hl
  have KD := hid fun W a c T t h hl => drop_any W a c T t h hl
  have KC := hid fun W a c T h hl => check_any W a c T h hl
  have KR := hid fun W n => rest_any n 5 W (by decide) (by decide)
  have K1 := hid (KA.out w none 0 [] 3 4 5 (TbAt.nil _ _) (by decide))
  obtain ⟨f1, f2, f3⟩ := ask_first
  rw [f1, f2] at K1
  have F3 := hid f3
  clear h f1 f2 f3
  go_enter Try.func3, Try.ntmps3
  go_wp2_with fail
  refine K1.out.mono ?_
  rintro r w1 ⟨v, rfl, t1, b1⟩
  obtain ⟨a1, c1, e1, _⟩ := t1.at_
  rw [F3.out] at e1
  subst e1
  have B1 := hid b1
  clear t1 b1 K1 F3
  go_wp2_with fail
  go_loopw [5, 37] (fun tv j wr => ∃ (k : Nat) (V : Value) (T : List Lk.It), k ≤ X.length ∧ V = tv ∧ j = .int .i64 (k : Int) ∧ Hid (TbIn wr w.heap.size V T) ∧ Hid (Lk.Good T) ∧ Hid (Below w.heap.size w wr)) (fun _ j _ => X.length - (intOf j).toNat)
  case atStart => exact ⟨0, _, [], Nat.zero_le _, rfl, rfl, TbIn.nil _ _, Lk.Good.nil, B1.out⟩
  case round =>
    clear B1
    obtain ⟨k, V, T, hk, rfl, rfl, hT, hG, hb⟩ := hrel
    obtain ⟨av, cv, rfl, hAt, _⟩ := hT.out.at_
    have l20 := hG.out.len
    have HAT := hid hAt
    clear hAt
    by_cases hlt : k < X.length
    · obtain ⟨x, hx⟩ : ∃ x, X[k]? = some x := ⟨_, List.getElem?_eq_getElem hlt⟩
      obtain ⟨b, o, rfl, d0, d1, d2⟩ := (H.out.below hb.out) k x hx
      have k0 : (0 : Int) ≤ (k : Int) := by omega
      have k1 : (k : Int) < (X.length : Int) := by omega
      obtain ⟨xt, xk, xi⟩ := x
      simp only at d0 d1 d2
      obtain ⟨W0, hW0⟩ : ∃ W0, W0 = wr.alloc (.cells #[.int .i64 xt, .int .i64 xk, .int .i64 xi] 29) := ⟨_, rfl⟩
      obtain ⟨B, hB⟩ : ∃ B, B = wr.heap.size := ⟨_, rfl⟩
      have SB : Hid (∀ W, Below W0.heap.size W0 W → W.cell? ⟨B, 0, none⟩ = some (.int .i64 xt) ∧ W.cell? ⟨B, 1, none⟩ = some (.int .i64 xk) ∧ W.cell? ⟨B, 2, none⟩ = some (.int .i64 xi)) := fun W hW => by rw [hW0] at hW; rw [hB]; exact ibox hW
      have B0 : Hid (Below wr.heap.size wr W0) := by show Below _ _ _; rw [hW0]; exact bx _ _
      have BD : Below W0.heap.size W0 W0.drew := (Below.refl _ _).drew
      have HW0 := hid hW0
      have HB := hid hB
      have r0 : 0 ≤ xk % 5 := by omega
      have r1 : xk % 5 < 5 := by omega
      have hw5 : IntKind.i64.wrap (xk % 5 + 1) = xk % 5 + 1 := IntWalk.i64_in _ ⟨by omega, by omega⟩
      have T0 : ∀ W, Below W0.heap.size W0 W → TbAt W av T := fun W hW => HAT.out.below (below_tr B0.out hW)
      have HT0 := hid T0
      have HS := hid (show step T xt xk xi = if xk = 4 then (if dropE T xt = 0 then dropV T xt else T) else (if askE T xt xi (xk % 5 + 1) = 0 then askV T xt xi (xk % 5 + 1) else T) from rfl)
      have HSG := hid (step_good hG.out xt xk xi)
      obtain ⟨T2, hT2⟩ : ∃ T2, T2 = step T xt xk xi := ⟨_, rfl⟩
      rw [← hT2] at HS HSG
      have KR1 := hid fun W => KR.out W xk
      obtain ⟨m, hm⟩ : ∃ m, m = xk % 5 := ⟨_, rfl⟩
      rw [← hm] at KR1 hw5 HS r0 r1
      clear hx hW0 hB T0 hT2 hm
      obtain ⟨n, hn⟩ : ∃ n, n = T.length := ⟨_, rfl⟩
      rw [← hn] at hT ⊢
      have HN := hid hn
      clear hn
      have KA1 := hid fun W hW => KA.out W av cv T xt xi (m + 1) (HT0.out W hW) (by omega)
      have KD1 := hid fun W hW => KD.out W av cv T xt (HT0.out W hW) (by omega)
      have KC1 := hid fun W hW => KC.out W av cv T (HT0.out W hW) (by omega)
      rw [← HN.out] at KA1 KD1 KC1
      go_upto_region 8 with fail
      rw [← HW0.out, ← HB.out]
      go_cut [10, 12] from 41 to 54 (fun u e wx => ∃ V2, V2 = u ∧ e = .int .i64 (askE T xt xi (m + 1)) ∧ Hid (TbIn wx w.heap.size V2 (askV T xt xi (m + 1)) ∧ Below W0.heap.size W0 wx))
      case first =>
        refine wp_region_held_drew (S := fun W => W.cell? ⟨B, 0, none⟩ = some (.int .i64 xt) ∧ W.cell? ⟨B, 1, none⟩ = some (.int .i64 xk) ∧ W.cell? ⟨B, 2, none⟩ = some (.int .i64 xi)) (by kernel_rfl) (SB.out _ BD) (fun hHeld => ?_)
        refine wpAnyH_take (i := 0) (v := ?tv1) rfl (by kernel_rfl) (by kernel_rfl) (by kernel_rfl) (fun _ _ _ h => h) (Or.inl ⟨by rfl, ?th1⟩) (by assumption) ?tr1
        case th1 => (intro w hSw; (try dsimp only at hSw); go_simp; all_goals (with_reducible rfl))
        simp only [Act.put, List.getElem_toArray, List.getElem_cons_zero, List.setIfInBounds_toArray, List.set_cons_zero, List.set_cons_succ]
        refine wpAnyH_take (i := 1) (v := ?tv2) rfl (by kernel_rfl) (by kernel_rfl) (by kernel_rfl) (fun _ _ _ h => h) (Or.inl ⟨by rfl, ?th2⟩) (by assumption) ?tr2
        case th2 => (intro w hSw; (try dsimp only at hSw); go_simp; all_goals (with_reducible rfl))
        simp only [Act.put, List.getElem_toArray, List.getElem_cons_zero, List.getElem_cons_succ, List.setIfInBounds_toArray, List.set_cons_zero, List.set_cons_succ]
        refine wpAnyH_take (i := 2) (v := ?tv3) rfl (by kernel_rfl) (by kernel_rfl) (by kernel_rfl) (fun _ _ _ h => h) (Or.inl ⟨by rfl, ?th3⟩) (by assumption) ?tr3
        case th3 => (intro w hSw; (try dsimp only at hSw); go_simp; all_goals (with_reducible rfl))
        simp only [Act.put, List.getElem_toArray, List.getElem_cons_zero, List.getElem_cons_succ, List.setIfInBounds_toArray, List.set_cons_zero, List.set_cons_succ]
        refine wpAnyH_take (i := 3) (v := ?tv4) rfl (by kernel_rfl) (by kernel_rfl) (by kernel_rfl) (fun _ _ _ h => h) (Or.inl ⟨by rfl, ?th4⟩) (by assumption) ?tr4
        case th4 => (intro w hSw; (try dsimp only at hSw); go_simp; all_goals (with_reducible rfl))
        simp only [Act.put, List.getElem_toArray, List.getElem_cons_zero, List.getElem_cons_succ, List.setIfInBounds_toArray, List.set_cons_zero, List.set_cons_succ]
        refine wpAnyH_take (i := 4) (v := ?tv5) rfl (by kernel_rfl) (by kernel_rfl) (by kernel_rfl) (fun _ _ _ h => h) (Or.inl ⟨by rfl, ?th5⟩) (by assumption) ?tr5
        case th5 => (intro w hSw; (try dsimp only at hSw); go_simp; all_goals (with_reducible rfl))
        simp only [Act.put, List.getElem_toArray, List.getElem_cons_zero, List.getElem_cons_succ, List.setIfInBounds_toArray, List.set_cons_zero, List.set_cons_succ]
        refine wpAnyH_take (i := 5) (v := ?tv6) rfl (by kernel_rfl) (by kernel_rfl) (by kernel_rfl) (fun _ _ _ h => h) (Or.inl ⟨by rfl, ?th6⟩) (by assumption) ?tr6
        case th6 => (intro w hSw; (try dsimp only at hSw); go_simp; all_goals (with_reducible rfl))
        simp only [Act.put, List.getElem_toArray, List.getElem_cons_zero, List.getElem_cons_succ, List.setIfInBounds_toArray, List.set_cons_zero, List.set_cons_succ]
        refine wpAnyH_take (i := 6) (v := ?tv7) rfl (by kernel_rfl) (by kernel_rfl) (by kernel_rfl) (fun _ _ _ h => h) (Or.inl ⟨by rfl, ?th7⟩) (by assumption) ?tr7
        case th7 => (intro w hSw; (try dsimp only at hSw); go_simp; all_goals (with_reducible rfl))
        simp only [Act.put, List.getElem_toArray, List.getElem_cons_zero, List.getElem_cons_succ, List.setIfInBounds_toArray, List.set_cons_zero, List.set_cons_succ]
        refine wpAnyH_ready (rs := [7]) (by kernel_rfl) (by simp) ?_
        refine AllReadyH.cons rfl (fun K hK => ?_) AllReadyH.nil
        go_simp
        refine (KR1.out _).mono ?_
        rintro r v7 ⟨rfl, hw7⟩
        obtain rfl := hw7.symm
        refine hK.out _ _ (SB.out _ BD) (fun hHeld => ?_)
        clear hK K
        try simp only [Act.put, List.getElem_toArray, List.getElem_cons_zero, List.getElem_cons_succ, List.setIfInBounds_toArray, List.set_cons_zero, List.set_cons_succ]
        refine wpAnyH_take (i := 8) (v := ?tv8) rfl (by kernel_rfl) (by kernel_rfl) (by kernel_rfl) (fun _ _ _ h => h) (Or.inl ⟨by rfl, ?th8⟩) (by assumption) ?tr8
        case th8 => (intro w hSw; (try dsimp only at hSw); go_simp; all_goals (with_reducible rfl))
        simp only [Act.put, List.getElem_toArray, List.getElem_cons_zero, List.getElem_cons_succ, List.setIfInBounds_toArray, List.set_cons_zero, List.set_cons_succ]
        refine wpAnyH_ready (rs := [9]) (by kernel_rfl) (by simp) ?_
        refine AllReadyH.cons rfl (fun K hK => ?_) AllReadyH.nil
        go_simp
        refine (KA1.out _ BD).mono ?_
        rintro r v9 ⟨V2, rfl, t2, b2⟩
        have C2 : Below W0.heap.size W0 v9 := below_tr BD b2
        have T9 : Hid (TbIn v9 w.heap.size V2 (askV T xt xi (m + 1)) ∧ Below W0.heap.size W0 v9) := ⟨t2.lower (Nat.le_trans (below_tr hb.out B0.out).size BD.size), C2⟩
        clear t2 b2
        refine hK.out _ _ (SB.out _ C2) (fun hHeld => ?_)
        clear hK K
        try simp only [Act.put, List.getElem_toArray, List.getElem_cons_zero, List.getElem_cons_succ, List.setIfInBounds_toArray, List.set_cons_zero, List.set_cons_succ]
        refine wpAnyH_take (i := 10) (v := ?tv9) rfl (by kernel_rfl) (by kernel_rfl) (by kernel_rfl) (fun _ _ _ h => h) (Or.inl ⟨by rfl, ?th9⟩) (by assumption) ?tr9
        case th9 => (intro w hSw; (try dsimp only at hSw); go_simp; all_goals (with_reducible rfl))
        simp only [Act.put, List.getElem_toArray, List.getElem_cons_zero, List.getElem_cons_succ, List.setIfInBounds_toArray, List.set_cons_zero, List.set_cons_succ]
        refine wpAnyH_take (i := 11) (v := ?tv10) rfl (by kernel_rfl) (by kernel_rfl) (by kernel_rfl) (fun _ _ _ h => h) (Or.inl ⟨by rfl, ?th10⟩) (by assumption) ?tr10
        case th10 => (intro w hSw; (try dsimp only at hSw); go_simp; all_goals (with_reducible rfl))
        simp only [Act.put, List.getElem_toArray, List.getElem_cons_zero, List.getElem_cons_succ, List.setIfInBounds_toArray, List.set_cons_zero, List.set_cons_succ]
        refine wpAnyH_take (i := 12) (v := ?tv11) rfl (by kernel_rfl) (by kernel_rfl) (by kernel_rfl) (fun _ _ _ h => h) (Or.inl ⟨by rfl, ?th11⟩) (by assumption) ?tr11
        case th11 => (intro w hSw; (try dsimp only at hSw); go_simp; all_goals (with_reducible rfl))
        simp only [Act.put, List.getElem_toArray, List.getElem_cons_zero, List.getElem_cons_succ, List.setIfInBounds_toArray, List.set_cons_zero, List.set_cons_succ]
        refine wpAnyH_take (i := 13) (v := ?tv12) rfl (by kernel_rfl) (by kernel_rfl) (by kernel_rfl) (fun _ _ _ h => h) (Or.inl ⟨by rfl, ?th12⟩) (by assumption) ?tr12
        case th12 => (intro w hSw; (try dsimp only at hSw); go_simp; all_goals (with_reducible rfl))
        simp only [Act.put, List.getElem_toArray, List.getElem_cons_zero, List.getElem_cons_succ, List.setIfInBounds_toArray, List.set_cons_zero, List.set_cons_succ]
        refine wpAnyH_take (i := 14) (v := ?tv13) rfl (by kernel_rfl) (by kernel_rfl) (by kernel_rfl) (fun _ _ _ h => h) (Or.inl ⟨by rfl, ?th13⟩) (by assumption) ?tr13
        case th13 => (intro w hSw; (try dsimp only at hSw); go_simp; all_goals (with_reducible rfl))
        simp only [Act.put, List.getElem_toArray, List.getElem_cons_zero, List.getElem_cons_succ, List.setIfInBounds_toArray, List.set_cons_zero, List.set_cons_succ]
        refine wpAnyH_take (i := 15) (v := ?tv14) rfl (by kernel_rfl) (by kernel_rfl) (by kernel_rfl) (fun _ _ _ h => h) (Or.inl ⟨by rfl, ?th14⟩) (by assumption) ?tr14
        case th14 => (intro w hSw; (try dsimp only at hSw); go_simp; all_goals (with_reducible rfl))
        simp only [Act.put, List.getElem_toArray, List.getElem_cons_zero, List.getElem_cons_succ, List.setIfInBounds_toArray, List.set_cons_zero, List.set_cons_succ]
        refine wpAnyH_take (i := 16) (v := ?tv15) rfl (by kernel_rfl) (by kernel_rfl) (by kernel_rfl) (fun _ _ _ h => h) (Or.inl ⟨by rfl, ?th15⟩) (by assumption) ?tr15
        case th15 => (intro w hSw; (try dsimp only at hSw); go_simp; all_goals (with_reducible rfl))
        simp only [Act.put, List.getElem_toArray, List.getElem_cons_zero, List.getElem_cons_succ, List.setIfInBounds_toArray, List.set_cons_zero, List.set_cons_succ]
        refine wpAnyH_done (by kernel_rfl) ?_ _
        go_wp2_with fail
        go_meet
        exact ⟨V2, rfl, rfl, T9⟩
      case rest =>
        obtain ⟨V2, rfl, rfl, hX⟩ := hcut
        have BW : Hid (Below w.heap.size w wc) := below_tr hb.out (below_tr B0.out hX.out.2)
        have TW : Hid (TbIn wc w.heap.size (.slice av n cv) T) := hT.out.below (below_tr B0.out hX.out.2)
        obtain ⟨y0, y1, y2⟩ := SB.out wc hX.out.2
        have KC2 := hid (KC.out)
        by_cases hk4 : xk = 4
        · have hk4' : (xk == 4) = true := by simpa using hk4
          have KD2 := hid (KD1.out wc hX.out.2)
          have HS2 : Hid (T2 = if dropE T xt = 0 then dropV T xt else T) := by have := HS.out; rwa [if_pos hk4] at this
          clear HS KA1 KR1
          subst hk4
          go_wp2_with fail
          refine KD2.out.mono ?_
          rintro r w3 ⟨V3, vt, rfl, t3, _, b3⟩
          have T3 : Hid (TbIn w3 w.heap.size V3 (dropV T xt)) := t3.lower BW.out.size
          have B3 := hid (below_tr BW.out b3)
          have BX3 : Hid (Below W0.heap.size W0 w3) := below_tr hX.out.2 b3
          have TW3 := hid (TW.out.below b3)
          clear t3 b3 KD2 y0 y1 y2 TW BW hX
          by_cases hz : dropE T xt = 0
          · have hT2 : Hid (T2 = dropV T xt) := by have := HS2.out; rwa [if_pos hz] at this
            rw [hz]
            have T4 : Hid (TbIn w3 w.heap.size V3 T2) := by show TbIn _ _ _ _; rw [hT2.out]; exact T3.out
            obtain ⟨a4, c4, rfl, hA4, _⟩ := T4.out.at_
            have K4 := hid (KC.out w3 a4 c4 T2 hA4 (by have := HSG.out.len; omega))
            rw [Lk.check_zero.2 HSG.out] at K4
            clear hz HS2 hA4 T3 hT2
            obtain ⟨n4, hn4⟩ : ∃ n, n = T2.length := ⟨_, rfl⟩
            rw [← hn4] at K4 T4 ⊢
            clear hn4
            go_wp2_with fail
            refine K4.out.mono ?_
            rintro r w5 ⟨rfl, b5⟩
            have B5 := hid (below_tr B3.out b5)
            have T5 := hid (T4.out.below b5)
            clear b5 K4
            go_wp2_with fail
            go_roundw
            case rel => first
              | exact ⟨k + 1, _, T2, by omega, rfl, by go_num, T5, HSG, B5⟩
              | ((repeat apply Exists.intro); exact ⟨⟨k + 1, _, T2, by omega, rfl, by go_num, T5, HSG, B5⟩, rfl⟩)
            case measure => simp [intOf]; omega
          · have hT2 : Hid (T2 = T) := by have := HS2.out; rwa [if_neg hz] at this
            have hz' : (dropE T xt == 0) = false := by simpa using hz
            have K4 := hid (KC1.out w3 BX3.out)
            rw [← hT2.out, Lk.check_zero.2 HSG.out] at K4
            have T4 : Hid (TbIn w3 w.heap.size (.slice av n cv) T2) := by show TbIn _ _ _ _; rw [hT2.out]; exact TW3.out
            generalize dropE T xt = de at *
            clear hz HS2 T3 hT2
            go_wp2_with fail
            refine K4.out.mono ?_
            rintro r w5 ⟨rfl, b5⟩
            have B5 := hid (below_tr B3.out b5)
            have T5 := hid (T4.out.below b5)
            clear b5 K4
            go_wp2_with fail
            go_roundw
            case rel => first
              | exact ⟨k + 1, _, T2, by omega, rfl, by go_num, T5, HSG, B5⟩
              | ((repeat apply Exists.intro); exact ⟨⟨k + 1, _, T2, by omega, rfl, by go_num, T5, HSG, B5⟩, rfl⟩)
            case measure => simp [intOf]; omega
        · have hk4' : (xk == 4) = false := by simpa using hk4
          have HS2 : Hid (T2 = if askE T xt xi (m + 1) = 0 then askV T xt xi (m + 1) else T) := by have := HS.out; rwa [if_neg hk4] at this
          clear HS KA1 KR1 KD1 hk4
          by_cases hz : askE T xt xi (m + 1) = 0
          · have hT2 : Hid (T2 = askV T xt xi (m + 1)) := by have := HS2.out; rwa [if_pos hz] at this
            rw [hz]
            have T4 : Hid (TbIn wc w.heap.size V2 T2) := by show TbIn _ _ _ _; rw [hT2.out]; exact hX.out.1
            obtain ⟨a4, c4, rfl, hA4, _⟩ := T4.out.at_
            have K4 := hid (KC.out wc a4 c4 T2 hA4 (by have := HSG.out.len; omega))
            rw [Lk.check_zero.2 HSG.out] at K4
            clear hz HS2 hA4 hT2 TW hX
            obtain ⟨n4, hn4⟩ : ∃ n, n = T2.length := ⟨_, rfl⟩
            rw [← hn4] at K4 T4 ⊢
            clear hn4
            go_wp2_with fail
            refine K4.out.mono ?_
            rintro r w5 ⟨rfl, b5⟩
            have B5 := hid (below_tr BW.out b5)
            have T5 := hid (T4.out.below b5)
            clear b5 K4 y0 y1 y2
            go_wp2_with fail
            go_roundw
            case rel => first
              | exact ⟨k + 1, _, T2, by omega, rfl, by go_num, T5, HSG, B5⟩
              | ((repeat apply Exists.intro); exact ⟨⟨k + 1, _, T2, by omega, rfl, by go_num, T5, HSG, B5⟩, rfl⟩)
            case measure => simp [intOf]; omega
          · have hT2 : Hid (T2 = T) := by have := HS2.out; rwa [if_neg hz] at this
            have hz' : (askE T xt xi (m + 1) == 0) = false := by simpa using hz
            have K4 := hid (KC1.out wc hX.out.2)
            rw [← hT2.out, Lk.check_zero.2 HSG.out] at K4
            have T4 : Hid (TbIn wc w.heap.size (.slice av n cv) T2) := by show TbIn _ _ _ _; rw [hT2.out]; exact TW.out
            generalize askE T xt xi (m + 1) = de at *
            clear hz HS2 hT2 TW hX
            go_wp2_with fail
            refine K4.out.mono ?_
            rintro r w5 ⟨rfl, b5⟩
            have B5 := hid (below_tr BW.out b5)
            have T5 := hid (T4.out.below b5)
            clear b5 K4 y0 y1 y2
            go_wp2_with fail
            go_roundw
            case rel => first
              | exact ⟨k + 1, _, T2, by omega, rfl, by go_num, T5, HSG, B5⟩
              | ((repeat apply Exists.intro); exact ⟨⟨k + 1, _, T2, by omega, rfl, by go_num, T5, HSG, B5⟩, rfl⟩)
            case measure => simp [intOf]; omega
    · obtain rfl : k = X.length := by omega
      have j3 : decide ((X.length : Int) < (X.length : Int)) = false := by simp
      have KD2 := hid (KD.out wr av cv T tx HAT.out (by omega))
      obtain ⟨n, hn⟩ : ∃ n, n = T.length := ⟨_, rfl⟩
      rw [← hn] at KD2 hT ⊢
      clear hn
      have nx : T = T := rfl
      clear nx
      by_cases hz : dropE T tx = 0
      rotate_left
      · have e1 : dropV T tx = [] := by unfold dropV; rw [if_neg hz]
        have e2 : dropG T tx = [] := by unfold dropG; rw [if_neg hz]
        rw [e1, e2] at KD2
        have hz' : (dropE T tx != 0) = true := by simpa using hz
        generalize dropE T tx = de at *
        clear hz e1 e2
        go_wp2_with fail
        refine KD2.out.mono ?_
        rintro r w3 ⟨V3, vt, rfl, t3, o3, b3⟩
        obtain ⟨a3, c3, rfl, _⟩ := t3.at_
        obtain ⟨a4, c4, rfl, _⟩ := o3.at_
        have B3 := hid (below_tr hb.out b3)
        clear t3 o3 b3 KD2
        have z1 : (([] : List Lk.It).length : Int) = 0 := rfl
        have z2 : (([] : List Int).length : Int) = 0 := rfl
        go_wp2_with fail
        go_ret
        exact ⟨by rfl, B3.out⟩
      · have e1 : dropV T tx = Lk.dropT T tx := by unfold dropV; rw [if_pos hz]
        have e2 : dropG T tx = Lk.dropL T tx := by unfold dropG; rw [if_pos hz]
        rw [e1, e2, hz] at KD2
        have hN := Lk.dropT_none hG.out tx
        have HG2 := hid (Lk.dropT_good hG.out tx)
        have HN1 := hid hN.1
        have HN2 := hid hN.2
        generalize Lk.dropT T tx = U at *
        generalize Lk.dropL T tx = L at *
        clear hz e1 e2 hN
        go_wp2_with fail
        refine KD2.out.mono ?_
        rintro r w3 ⟨V3, vt, rfl, t3, o3, b3⟩
        obtain ⟨a3, c3, rfl, hA3, _⟩ := t3.at_
        obtain ⟨a4, c4, rfl, hA4, _, h41, h42⟩ := o3.at_
        have B3 := hid (below_tr hb.out b3)
        have HA3 := hid hA3
        have HA4 := hid hA4
        have uU := HG2.out.len
        obtain ⟨nu, hnu⟩ : ∃ n, n = U.length := ⟨_, rfl⟩
        have nu20 : (nu : Int) ≤ 20 := by omega
        have KC3 := hid fun W (hW : Below w3.heap.size w3 W) => KC.out W a3 c3 U (HA3.out.below hW) (by omega)
        have KI3 := hid fun W (hW : Below w3.heap.size w3 W) => contains_any W a4 c4 L tx (HA4.out.below hW) (by unfold maxLen at h42; omega)
        rw [← hnu] at KC3 ⊢
        rw [Lk.check_zero.2 HG2.out] at KC3
        rw [decide_eq_false HN2.out] at KI3
        have HNU := hid hnu
        clear t3 o3 b3 hA3 hA4 KD2 hnu h41 h42
        go_wp2_with fail
        go_loopw [92] (fun j wr2 => ∃ q : Nat, q ≤ nu ∧ j = .int .i64 (q : Int) ∧ Hid (Below w3.heap.size w3 wr2)) (fun j _ => nu - (intOf j).toNat)
        case atStart => exact ⟨0, Nat.zero_le _, rfl, Below.refl _ _⟩
        case round =>
          obtain ⟨q, hq, rfl, hb2⟩ := hrel
          by_cases hqn : q < nu
          · obtain ⟨y, hy⟩ : ∃ y, U[q]? = some y := ⟨_, List.getElem?_eq_getElem (by have := HNU.out; omega)⟩
            obtain ⟨b, o, vh, vq, e3, d0, d1, d2, lh, lq⟩ := (HA3.out.below hb2.out) q y hy
            subst e3
            have q0 : (0 : Int) ≤ (q : Int) := by omega
            have q1 : (q : Int) < (nu : Int) := by omega
            have hym := List.mem_of_getElem? hy
            have hr := (HG2.out.it y hym).2.2
            have l12h := hr.rh.len
            have l12q := hr.rq.len
            have HHn := hid (HN1.out y hym)
            obtain ⟨ah, ch, rfl, lh1, lh2, lh3, lh4⟩ := lh
            obtain ⟨aq, cq, rfl, lq1, lq2, lq3, lq4⟩ := lq
            obtain ⟨w5, hw5⟩ : ∃ w5, w5 = (wr.alloc (.cells #[.int .i64 y.i, .slice ah y.h.length ch, .slice aq y.q.length cq] 37)).alloc (.cells #[.slice ah y.h.length ch, .slice aq y.q.length cq] 35) := ⟨_, rfl⟩
            have b5 : Below wr.heap.size wr w5 := by rw [hw5]; exact below_tr (bx _ _) (bx _ _)
            have k5 : w5.cell? ⟨wr.heap.size + 1, 0, none⟩ = some (.slice ah y.h.length ch) ∧ w5.cell? ⟨wr.heap.size + 1, 1, none⟩ = some (.slice aq y.q.length cq) := by
              rw [hw5]
              simp
            have KCC := hid (concat_any w5 (wr.heap.size + 1) ah aq ch cq y.h y.q (lh1.below b5) (lq1.below b5) lh4 lq4 k5.1 k5.2 (by omega) (by omega))
            have B5 := hid (below_tr hb2.out b5)
            have HW5 := hid hw5
            have hno : Hid (∀ l ∈ y.h ++ y.q, l.x ≠ tx) := fun l hl => by
              rcases List.mem_append.1 hl with hl | hl
              · exact Lk.has_not.1 HHn.out.1 l hl
              · exact Lk.has_not.1 HHn.out.2 l hl
            have l24 : Hid ((y.h ++ y.q).length ≤ 24) := by show _ ≤ _; rw [List.length_append]; omega
            generalize y.h ++ y.q = M at *
            clear hy hym hr l12h l12q lh1 lh2 lh3 lh4 lq1 lq2 lq3 lq4 b5 k5 hw5 HHn
            go_wp2_with fail
            rw [← HW5.out]
            refine KCC.out.mono ?_
            rintro r w6 ⟨v6, rfl, o6, b6⟩
            obtain ⟨a6, c6, rfl, hp6, _⟩ := o6.at_
            have HP6 := hid hp6
            have B6 := hid (below_tr B5.out b6)
            obtain ⟨nm, hnm⟩ : ∃ n, n = M.length := ⟨_, rfl⟩
            have HNM := hid hnm
            rw [← hnm] at l24 ⊢
            have l24i : (nm : Int) ≤ 24 := by have := l24.out; omega
            clear o6 hp6 b6 hnm KCC HW5 d0 d1 d2
            go_wp2_with fail
            go_loopw [103] (fun j wr3 => ∃ p : Nat, p ≤ nm ∧ j = .int .i64 (p : Int) ∧ Hid (Below w6.heap.size w6 wr3)) (fun j _ => nm - (intOf j).toNat)
            case atStart => exact ⟨0, Nat.zero_le _, rfl, Below.refl _ _⟩
            case round =>
              obtain ⟨p, hp, rfl, hb3⟩ := hrel
              by_cases hpn : p < nm
              · obtain ⟨l, hl⟩ : ∃ l, M[p]? = some l := ⟨_, List.getElem?_eq_getElem (by have := HNM.out; omega)⟩
                obtain ⟨bm, om, e7, g1, g2⟩ := (HP6.out.below hb3.out) p l hl
                subst e7
                have p0 : (0 : Int) ≤ (p : Int) := by omega
                have p1 : (p : Int) < (nm : Int) := by omega
                have hne := hno.out l (List.mem_of_getElem? hl)
                obtain ⟨lx, lm⟩ := l
                simp only at g1 g2 hne
                have hne' : (lx == tx) = false := by simpa using hne
                have B7 : Hid (Below w6.heap.size w6 (wr.alloc (.cells #[.int .i64 lx, .int .i64 lm] 40))) := below_tr hb3.out (bx _ _)
                clear hl hne
                go_wp2_with fail
                go_roundw
                case rel => first
                  | exact ⟨p + 1, by omega, by go_num, B7⟩
                  | ((repeat apply Exists.intro); exact ⟨⟨p + 1, by omega, by go_num, B7⟩, rfl⟩)
                case measure => simp [intOf]; omega
              · obtain rfl : p = nm := by omega
                have j4 : decide ((p : Int) < (p : Int)) = false := by simp
                have B8 := hid (below_tr B6.out hb3.out)
                go_wp2_with fail
                go_roundw
                case rel => exact ⟨q + 1, by omega, by go_num, B8⟩
                case measure => simp [intOf]; omega
          · obtain rfl : q = nu := by omega
            have j4 : decide ((q : Int) < (q : Int)) = false := by simp
            have KC4 := hid (KC3.out wr hb2.out)
            go_wp2_with fail
            refine KC4.out.mono ?_
            rintro r w7 ⟨rfl, b7⟩
            have B7 := hid (below_tr hb2.out b7)
            have KI4 := hid (KI3.out w7 B7.out)
            clear b7 KC4
            go_wp2_with fail
            refine KI4.out.mono ?_
            rintro r w8 ⟨rfl, b8⟩
            have B8 := hid (below_tr B3.out (below_tr B7.out b8))
            clear b8
            go_wp2_with fail
            go_ret
            exact ⟨by rfl, B8.out⟩
end Go.Proofs.Ytjoaedkgjnchoaj.PLock
