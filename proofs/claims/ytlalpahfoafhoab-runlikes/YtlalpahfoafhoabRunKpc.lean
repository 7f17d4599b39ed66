/- run.keepsClashes, run.Like, walked: whether of each two that clash the first is the first in the other too; nothing that was there has turned. Conditions: the operations lie where their slices say; the capacity is no less than the length. -/
import Derived.Test.YtlalpahfoafhoabRunPin
import Derived.Test.YtlalpahfoafhoabRunCk
import Derived.Deep.CutRange
namespace Go.Proofs.Ytlalpahfoafhoab.PRun
open Go Go.RowKit PPool PGraph
set_option maxRecDepth 100000

set_option maxHeartbeats 4000000 in
theorem keepsC_any (w : World) (a ap : Option Addr) (c cp : Nat) (X : List Rn.Op) (F : Nat → Nat) (h : OpAt w a X) (hP : NatsAt w ap (Gr.row X.length F)) (hl : X.length ≤ 200) (hcap : X.length ≤ c) :
    Calls Try.prog 89 #[.slice a X.length c, .slice ap X.length cp] w fun e w' => e = .returned (.bool (Rn.keeps X F)) ∧ Below w.heap.size w w' := by
  obtain ⟨Y, hY⟩ : ∃ Y, Y = Rn.keeps X F := ⟨_, rfl⟩
  rw [← hY]
  have HY := hid hY
  have H := hid h
  have HP := hid hP
  have KC := hid fun W p q => clash_any W p q
  clear hY h hP
  go_enter Try.func89, Try.ntmps89
  go_wp2_with fail
  go_loopw [5, 6, 7, 8, 11] (fun _ _ _ _ i wr => ∃ k : Nat, k ≤ X.length ∧ i = .int .i64 (k : Int) ∧ Hid (Rn.keepsTo X F k 0 = true) ∧ Hid (Below w.heap.size w wr)) (fun _ _ _ _ i _ => X.length - (intOf i).toNat)
  case atStart => exact ⟨0, Nat.zero_le _, rfl, rfl, Below.refl _ _⟩
  case round =>
    obtain ⟨k, hk, rfl, hC, hb⟩ := hrel
    by_cases hlt : k < X.length
    · obtain ⟨x, hx⟩ : ∃ x, X[k]? = some x := ⟨_, List.getElem?_eq_getElem hlt⟩
      obtain ⟨b, o, rfl, d1, d2, d3⟩ := (H.out.below hb.out) k x hx
      have k0 : (0 : Int) ≤ (k : Int) := by omega
      have k1 : (k : Int) < (X.length : Int) := by omega
      have kc : (k : Int) ≤ (c : Int) := by omega
      have HX := hid hx
      clear hx
      obtain ⟨ox, ok, oi⟩ := x
      simp only at d1 d2 d3
      obtain ⟨wk, hwk⟩ : ∃ wk, wk = wr := ⟨_, rfl⟩
      rw [← hwk] at d1 d2 d3 hb ⊢
      clear hwk
      have A0 : ∀ T, Hid (ArrAt (wk.alloc (.cells #[.int .i64 ox, .int .i64 ok, .int .i64 oi] T)) wk.heap.size #[.int .i64 ox, .int .i64 ok, .int .i64 oi] ∧ Below w.heap.size w (wk.alloc (.cells #[.int .i64 ox, .int .i64 ok, .int .i64 oi] T))) := fun T => ⟨ArrAt.new wk _ T, below_tr hb.out (bx _ _)⟩
      obtain ⟨M, hM⟩ : ∃ M, M = wk.heap.size := ⟨_, rfl⟩
      rw [← hM] at A0
      go_wp2_with fail
      rw [← hM]
      go_loopw [7, 8, 20] (fun _ _ i wr => ∃ j : Nat, j ≤ k ∧ i = .int .i64 (j : Int) ∧ Hid (Rn.keepsTo X F k j = true) ∧ Hid (ArrAt wr M #[.int .i64 ox, .int .i64 ok, .int .i64 oi] ∧ Below w.heap.size w wr)) (fun _ _ i _ => k - (intOf i).toNat)
      case atStart => exact ⟨0, Nat.zero_le _, rfl, hC, A0 _⟩
      case round =>
        clear A0 d1 d2 d3 hb hC hM
        obtain ⟨j, hj, rfl, hC, hA⟩ := hrel
        by_cases hjk : j < k
        · obtain ⟨y, hy⟩ : ∃ y, X[j]? = some y := ⟨_, List.getElem?_eq_getElem (by omega)⟩
          obtain ⟨b', o', e, d1, d2, d3⟩ := (H.out.below hA.out.2) j y hy
          injection e with e
          injection e with e1 e2
          subst e1; subst e2
          have j0 : (0 : Int) ≤ (j : Int) := by omega
          have j1 : (j : Int) < (k : Int) := by omega
          have jl : (j : Int) < (X.length : Int) := by omega
          have HT := hid (Rn.tangled_at hy HX.out F)
          have HN := hid (Rn.keepsTo_next X F k j)
          have HF0 := hid (fun h => @Rn.keepsTo_not X F k j hlt hjk h)
          obtain ⟨bp, op, rfl, -⟩ := HP.out j (F j) (Gr.row_at F (by omega))
          have p1 : Hid (∀ W, Below w.heap.size w W → W.cell? ⟨bp, op + j, none⟩ = some (.int .i64 (F j : Int)) ∧ W.cell? ⟨bp, op + k, none⟩ = some (.int .i64 (F k : Int))) := fun W hW => by
            obtain ⟨b1, o1, e1, h1⟩ := HP.out j (F j) (Gr.row_at F (by omega))
            obtain ⟨b2, o2, e2, h2⟩ := HP.out k (F k) (Gr.row_at F hlt)
            injection e1 with e1
            injection e1 with e3 e4
            injection e2 with e2
            injection e2 with e5 e6
            subst e3; subst e4; subst e5; subst e6
            exact ⟨keep1 hW h1, keep1 hW h2⟩
          obtain ⟨T, hT⟩ : ∃ T, T = Rn.tangled X F j k := ⟨_, rfl⟩
          rw [← hT] at HT HN HF0
          clear hT hy
          obtain ⟨fj, hfj⟩ : ∃ fj, fj = F j := ⟨_, rfl⟩
          obtain ⟨fk, hfk⟩ : ∃ fk, fk = F k := ⟨_, rfl⟩
          rw [← hfj, ← hfk] at p1 HT
          clear hfj hfk
          obtain ⟨yx, yk, yi⟩ := y
          simp only at d1 d2 d3 HT
          have KC := hid fun W => KC.out W ⟨yx, yk, yi⟩ ⟨ox, ok, oi⟩
          obtain ⟨cl, hcl⟩ : ∃ cl, cl = Rn.clash ⟨yx, yk, yi⟩ ⟨ox, ok, oi⟩ := ⟨_, rfl⟩
          rw [← hcl] at KC HT
          clear hcl
          simp only at KC
          obtain ⟨W1, hW1⟩ : ∃ W1, W1 = wr.alloc (.cells #[.int .i64 yx, .int .i64 yk, .int .i64 yi] 129) := ⟨_, rfl⟩
          have A1 : Hid (ArrAt W1 M #[.int .i64 ox, .int .i64 ok, .int .i64 oi] ∧ ArrAt W1 wr.heap.size #[.int .i64 yx, .int .i64 yk, .int .i64 yi] ∧ Below w.heap.size w W1) := by
            rw [hW1]; exact ⟨hA.out.1.below (bx _ _), ArrAt.new wr _ _, below_tr hA.out.2 (bx _ _)⟩
          go_upto_region 7 with fail
          rw [← hW1]
          clear hW1 d1 d2 d3
          go_cut [38] from 25 to 38 (fun c wx => c = .bool T ∧ Hid (ArrAt wx M #[.int .i64 ox, .int .i64 ok, .int .i64 oi] ∧ Below w.heap.size w wx))
          case first =>
            have u0 := A1.out.1.cell (j := 0) (v := .int .i64 ox) rfl
            have u1 := A1.out.1.cell (j := 1) (v := .int .i64 ok) rfl
            have u2 := A1.out.1.cell (j := 2) (v := .int .i64 oi) rfl
            have v0 := A1.out.2.1.cell (j := 0) (v := .int .i64 yx) rfl
            have v1 := A1.out.2.1.cell (j := 1) (v := .int .i64 yk) rfl
            have v2 := A1.out.2.1.cell (j := 2) (v := .int .i64 yi) rfl
            cases hcl : cl with
            | false =>
              have KC : Hid (∀ W, Calls Try.prog 114 #[.agg #[.int .i64 yx, .int .i64 yk, .int .i64 yi], .agg #[.int .i64 ox, .int .i64 ok, .int .i64 oi]] W fun e w' => e = .returned (.bool false) ∧ Below W.heap.size W w') := by rw [← hcl]; exact KC
              refine wp_region_any (by kernel_rfl) ?_
              change wpAny _ _ _ _ _ _ _ (World.drew _)
              refine wpAny_ready (rs := [0, 1]) (by kernel_rfl) (by simp) ?_
              refine AllReady.cons rfl (fun K hK => ?_) (AllReady.cons rfl (fun K hK => ?_) AllReady.nil)
              · skip
                go_simp
                refine hK _ _ ?_
                clear hK K
                try simp only [Act.put, List.getElem_toArray, List.getElem_cons_zero, List.getElem_cons_succ, List.setIfInBounds_toArray, List.set_cons_zero, List.set_cons_succ]
                refine wpAny_ready (rs := [1]) (by kernel_rfl) (by simp) ?_
                refine AllReady.cons rfl (fun K hK => ?_) AllReady.nil
                go_simp
                refine hK _ _ ?_
                clear hK K
                try simp only [Act.put, List.getElem_toArray, List.getElem_cons_zero, List.getElem_cons_succ, List.setIfInBounds_toArray, List.set_cons_zero, List.set_cons_succ]
                refine wpAny_ready (rs := [2]) (by kernel_rfl) (by simp) ?_
                refine AllReady.cons rfl (fun K hK => ?_) AllReady.nil
                go_simp
                refine (KC.out _).mono ?_
                rintro r w3 ⟨rfl, hb3⟩
                refine hK _ _ ?_
                clear hK K
                try simp only [Act.put, List.getElem_toArray, List.getElem_cons_zero, List.getElem_cons_succ, List.setIfInBounds_toArray, List.set_cons_zero, List.set_cons_succ]
                refine wpAny_take (i := 3) (v := ?tv1) rfl (by kernel_rfl) (by kernel_rfl) (by kernel_rfl) (fun _ _ _ h => h) (Or.inl ⟨by rfl, ?th1⟩) ?tr1
                case th1 => (intro w; go_simp; all_goals (with_reducible rfl))
                simp only [Act.put, List.getElem_toArray, List.getElem_cons_zero, List.getElem_cons_succ, List.setIfInBounds_toArray, List.set_cons_zero, List.set_cons_succ]
                refine wpAny_take (i := 4) (v := undef) rfl (by kernel_rfl) (by kernel_rfl) (by kernel_rfl) (fun _ _ _ h => h) (Or.inr ⟨by rfl, rfl⟩) ?_
                try simp only [Act.put, List.getElem_toArray, List.getElem_cons_zero, List.getElem_cons_succ, List.setIfInBounds_toArray, List.set_cons_zero, List.set_cons_succ]
                refine wpAny_take (i := 5) (v := undef) rfl (by kernel_rfl) (by kernel_rfl) (by kernel_rfl) (fun _ _ _ h => h) (Or.inr ⟨by rfl, rfl⟩) ?_
                try simp only [Act.put, List.getElem_toArray, List.getElem_cons_zero, List.getElem_cons_succ, List.setIfInBounds_toArray, List.set_cons_zero, List.set_cons_succ]
                refine wpAny_take (i := 6) (v := undef) rfl (by kernel_rfl) (by kernel_rfl) (by kernel_rfl) (fun _ _ _ h => h) (Or.inr ⟨by rfl, rfl⟩) ?_
                try simp only [Act.put, List.getElem_toArray, List.getElem_cons_zero, List.getElem_cons_succ, List.setIfInBounds_toArray, List.set_cons_zero, List.set_cons_succ]
                refine wpAny_take (i := 7) (v := undef) rfl (by kernel_rfl) (by kernel_rfl) (by kernel_rfl) (fun _ _ _ h => h) (Or.inr ⟨by rfl, rfl⟩) ?_
                try simp only [Act.put, List.getElem_toArray, List.getElem_cons_zero, List.getElem_cons_succ, List.setIfInBounds_toArray, List.set_cons_zero, List.set_cons_succ]
                refine wpAny_take (i := 8) (v := undef) rfl (by kernel_rfl) (by kernel_rfl) (by kernel_rfl) (fun _ _ _ h => h) (Or.inr ⟨by rfl, rfl⟩) ?_
                try simp only [Act.put, List.getElem_toArray, List.getElem_cons_zero, List.getElem_cons_succ, List.setIfInBounds_toArray, List.set_cons_zero, List.set_cons_succ]
                refine wpAny_take (i := 9) (v := undef) rfl (by kernel_rfl) (by kernel_rfl) (by kernel_rfl) (fun _ _ _ h => h) (Or.inr ⟨by rfl, rfl⟩) ?_
                try simp only [Act.put, List.getElem_toArray, List.getElem_cons_zero, List.getElem_cons_succ, List.setIfInBounds_toArray, List.set_cons_zero, List.set_cons_succ]
                refine wpAny_take (i := 10) (v := undef) rfl (by kernel_rfl) (by kernel_rfl) (by kernel_rfl) (fun _ _ _ h => h) (Or.inr ⟨by rfl, rfl⟩) ?_
                try simp only [Act.put, List.getElem_toArray, List.getElem_cons_zero, List.getElem_cons_succ, List.setIfInBounds_toArray, List.set_cons_zero, List.set_cons_succ]
                refine wpAny_take (i := 11) (v := undef) rfl (by kernel_rfl) (by kernel_rfl) (by kernel_rfl) (fun _ _ _ h => h) (Or.inr ⟨by rfl, rfl⟩) ?_
                try simp only [Act.put, List.getElem_toArray, List.getElem_cons_zero, List.getElem_cons_succ, List.setIfInBounds_toArray, List.set_cons_zero, List.set_cons_succ]
                refine wpAny_take (i := 12) (v := undef) rfl (by kernel_rfl) (by kernel_rfl) (by kernel_rfl) (fun _ _ _ h => h) (Or.inr ⟨by rfl, rfl⟩) ?_
                try simp only [Act.put, List.getElem_toArray, List.getElem_cons_zero, List.getElem_cons_succ, List.setIfInBounds_toArray, List.set_cons_zero, List.set_cons_succ]
                refine wpAny_take (i := 13) (v := ?tv2) rfl (by kernel_rfl) (by kernel_rfl) (by kernel_rfl) (fun _ _ _ h => h) (Or.inl ⟨by rfl, ?th2⟩) ?tr2
                case th2 => (intro w; go_simp; all_goals (with_reducible rfl))
                simp only [Act.put, List.getElem_toArray, List.getElem_cons_zero, List.getElem_cons_succ, List.setIfInBounds_toArray, List.set_cons_zero, List.set_cons_succ]
                refine wpAny_done (by kernel_rfl) ?_ _
                go_wp2_with fail
                go_meet
                exact ⟨by rw [HT.out, hcl]; rfl, A1.out.1.below (below_tr (Below.refl _ W1).drew hb3), below_tr A1.out.2.2 (below_tr (Below.refl _ W1).drew hb3)⟩
              · skip
                go_simp
                refine hK _ _ ?_
                clear hK K
                try simp only [Act.put, List.getElem_toArray, List.getElem_cons_zero, List.getElem_cons_succ, List.setIfInBounds_toArray, List.set_cons_zero, List.set_cons_succ]
                refine wpAny_ready (rs := [0]) (by kernel_rfl) (by simp) ?_
                refine AllReady.cons rfl (fun K hK => ?_) AllReady.nil
                go_simp
                refine hK _ _ ?_
                clear hK K
                try simp only [Act.put, List.getElem_toArray, List.getElem_cons_zero, List.getElem_cons_succ, List.setIfInBounds_toArray, List.set_cons_zero, List.set_cons_succ]
                refine wpAny_ready (rs := [2]) (by kernel_rfl) (by simp) ?_
                refine AllReady.cons rfl (fun K hK => ?_) AllReady.nil
                go_simp
                refine (KC.out _).mono ?_
                rintro r w3 ⟨rfl, hb3⟩
                refine hK _ _ ?_
                clear hK K
                try simp only [Act.put, List.getElem_toArray, List.getElem_cons_zero, List.getElem_cons_succ, List.setIfInBounds_toArray, List.set_cons_zero, List.set_cons_succ]
                refine wpAny_take (i := 3) (v := ?tv3) rfl (by kernel_rfl) (by kernel_rfl) (by kernel_rfl) (fun _ _ _ h => h) (Or.inl ⟨by rfl, ?th3⟩) ?tr3
                case th3 => (intro w; go_simp; all_goals (with_reducible rfl))
                simp only [Act.put, List.getElem_toArray, List.getElem_cons_zero, List.getElem_cons_succ, List.setIfInBounds_toArray, List.set_cons_zero, List.set_cons_succ]
                refine wpAny_take (i := 4) (v := undef) rfl (by kernel_rfl) (by kernel_rfl) (by kernel_rfl) (fun _ _ _ h => h) (Or.inr ⟨by rfl, rfl⟩) ?_
                try simp only [Act.put, List.getElem_toArray, List.getElem_cons_zero, List.getElem_cons_succ, List.setIfInBounds_toArray, List.set_cons_zero, List.set_cons_succ]
                refine wpAny_take (i := 5) (v := undef) rfl (by kernel_rfl) (by kernel_rfl) (by kernel_rfl) (fun _ _ _ h => h) (Or.inr ⟨by rfl, rfl⟩) ?_
                try simp only [Act.put, List.getElem_toArray, List.getElem_cons_zero, List.getElem_cons_succ, List.setIfInBounds_toArray, List.set_cons_zero, List.set_cons_succ]
                refine wpAny_take (i := 6) (v := undef) rfl (by kernel_rfl) (by kernel_rfl) (by kernel_rfl) (fun _ _ _ h => h) (Or.inr ⟨by rfl, rfl⟩) ?_
                try simp only [Act.put, List.getElem_toArray, List.getElem_cons_zero, List.getElem_cons_succ, List.setIfInBounds_toArray, List.set_cons_zero, List.set_cons_succ]
                refine wpAny_take (i := 7) (v := undef) rfl (by kernel_rfl) (by kernel_rfl) (by kernel_rfl) (fun _ _ _ h => h) (Or.inr ⟨by rfl, rfl⟩) ?_
                try simp only [Act.put, List.getElem_toArray, List.getElem_cons_zero, List.getElem_cons_succ, List.setIfInBounds_toArray, List.set_cons_zero, List.set_cons_succ]
                refine wpAny_take (i := 8) (v := undef) rfl (by kernel_rfl) (by kernel_rfl) (by kernel_rfl) (fun _ _ _ h => h) (Or.inr ⟨by rfl, rfl⟩) ?_
                try simp only [Act.put, List.getElem_toArray, List.getElem_cons_zero, List.getElem_cons_succ, List.setIfInBounds_toArray, List.set_cons_zero, List.set_cons_succ]
                refine wpAny_take (i := 9) (v := undef) rfl (by kernel_rfl) (by kernel_rfl) (by kernel_rfl) (fun _ _ _ h => h) (Or.inr ⟨by rfl, rfl⟩) ?_
                try simp only [Act.put, List.getElem_toArray, List.getElem_cons_zero, List.getElem_cons_succ, List.setIfInBounds_toArray, List.set_cons_zero, List.set_cons_succ]
                refine wpAny_take (i := 10) (v := undef) rfl (by kernel_rfl) (by kernel_rfl) (by kernel_rfl) (fun _ _ _ h => h) (Or.inr ⟨by rfl, rfl⟩) ?_
                try simp only [Act.put, List.getElem_toArray, List.getElem_cons_zero, List.getElem_cons_succ, List.setIfInBounds_toArray, List.set_cons_zero, List.set_cons_succ]
                refine wpAny_take (i := 11) (v := undef) rfl (by kernel_rfl) (by kernel_rfl) (by kernel_rfl) (fun _ _ _ h => h) (Or.inr ⟨by rfl, rfl⟩) ?_
                try simp only [Act.put, List.getElem_toArray, List.getElem_cons_zero, List.getElem_cons_succ, List.setIfInBounds_toArray, List.set_cons_zero, List.set_cons_succ]
                refine wpAny_take (i := 12) (v := undef) rfl (by kernel_rfl) (by kernel_rfl) (by kernel_rfl) (fun _ _ _ h => h) (Or.inr ⟨by rfl, rfl⟩) ?_
                try simp only [Act.put, List.getElem_toArray, List.getElem_cons_zero, List.getElem_cons_succ, List.setIfInBounds_toArray, List.set_cons_zero, List.set_cons_succ]
                refine wpAny_take (i := 13) (v := ?tv4) rfl (by kernel_rfl) (by kernel_rfl) (by kernel_rfl) (fun _ _ _ h => h) (Or.inl ⟨by rfl, ?th4⟩) ?tr4
                case th4 => (intro w; go_simp; all_goals (with_reducible rfl))
                simp only [Act.put, List.getElem_toArray, List.getElem_cons_zero, List.getElem_cons_succ, List.setIfInBounds_toArray, List.set_cons_zero, List.set_cons_succ]
                refine wpAny_done (by kernel_rfl) ?_ _
                go_wp2_with fail
                go_meet
                exact ⟨by rw [HT.out, hcl]; rfl, A1.out.1.below (below_tr (Below.refl _ W1).drew hb3), below_tr A1.out.2.2 (below_tr (Below.refl _ W1).drew hb3)⟩
            | true =>
              rw [hcl] at KC
              by_cases hlt2 : fk < fj
              · have hd : decide (fk < fj) = true := decide_eq_true hlt2
                have hdI : decide ((fk : Int) < (fj : Int)) = true := decide_eq_true (by omega)
                go_region_with ((go_at_call 114; refine (KC.out _).mono ?_; rintro r w3 ⟨rfl, hb3⟩; obtain ⟨x1, x2⟩ := p1.out w3 (below_tr A1.out.2.2 (below_tr (Below.refl _ W1).drew hb3))))
                all_goals
                  go_wp2_with fail
                  go_meet
                  exact ⟨by rw [HT.out, hd, hcl]; rfl, A1.out.1.below (below_tr (Below.refl _ W1).drew hb3), below_tr A1.out.2.2 (below_tr (Below.refl _ W1).drew hb3)⟩
              · have hd : decide (fk < fj) = false := decide_eq_false hlt2
                have hdI : decide ((fk : Int) < (fj : Int)) = false := decide_eq_false (by omega)
                go_region_with ((go_at_call 114; refine (KC.out _).mono ?_; rintro r w3 ⟨rfl, hb3⟩; obtain ⟨x1, x2⟩ := p1.out w3 (below_tr A1.out.2.2 (below_tr (Below.refl _ W1).drew hb3))))
                all_goals
                  go_wp2_with fail
                  go_meet
                  exact ⟨by rw [HT.out, hd, hcl]; rfl, A1.out.1.below (below_tr (Below.refl _ W1).drew hb3), below_tr A1.out.2.2 (below_tr (Below.refl _ W1).drew hb3)⟩
          case rest =>
            obtain ⟨rfl, hA2⟩ := hcut
            clear A1 hA p1 KC HT
            cases T with
            | true =>
              have HF : Hid (Y = false) := by show _ = _; rw [HY.out]; exact HF0.out rfl
              clear HN HF0
              go_wp2_with fail
              go_ret
              exact ⟨by rw [HF.out]; rfl, hA2.out.2⟩
            | false =>
              have hC2 : Hid (Rn.keepsTo X F k (j + 1) = true) := by show _ = _; rw [HN.out, hC.out]; rfl
              clear HN HF0 hC
              go_wp2_with fail
              go_roundw
              case rel => first
                | exact ⟨j + 1, by omega, by go_num, hC2, hA2⟩
                | ((repeat apply Exists.intro); exact ⟨⟨j + 1, by omega, by go_num, hC2, hA2⟩, rfl⟩)
              case measure => simp [intOf]; omega
        · obtain rfl : j = k := by omega
          have hC2 : Hid (Rn.keepsTo X F (j + 1) 0 = true) := by show _ = _; rw [← Rn.keepsTo_round]; exact hC.out
          have j3 : decide ((j : Int) < (j : Int)) = false := by simp
          have hb2 := hid hA.out.2
          clear hC hA
          go_wp2_with fail
          go_roundw
          case rel => first
            | exact ⟨j + 1, by omega, by go_num, hC2, hb2⟩
            | ((repeat apply Exists.intro); exact ⟨⟨j + 1, by omega, by go_num, hC2, hb2⟩, rfl⟩)
          case measure => simp [intOf]; omega
    · obtain rfl : k = X.length := by omega
      have HF : Hid (Y = true) := HY.out.trans hC.out
      have j3 : decide ((X.length : Int) < (X.length : Int)) = false := by simp
      clear hC
      go_wp2_with fail
      go_ret
      exact ⟨by rw [HF.out]; rfl, hb.out⟩
end Go.Proofs.Ytlalpahfoafhoab.PRun
