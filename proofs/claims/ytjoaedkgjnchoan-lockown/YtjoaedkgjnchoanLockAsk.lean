/- lock.ask, walked: the lock is given, or stands in the queue, in the item that the pointer tells, whose lists are its own; no other block turns. Conditions: how many locks there are. -/
import Derived.Test.YtjoaedkgjnchoanLockGiv
import Derived.Test.YtjoaedkgjnchoanLockSpt
import Derived.Test.YtjoaedkgjnchoanLockWay
import Derived.Test.YtjoaedkgjnchoanLockIns
namespace Go.Proofs.Ytjoaedkgjnchoan.PLock
open Go Go.RowKit PPool
set_option maxRecDepth 100000

/-- What an item's cells and a lock's box hold, at worlds that come later. -/
theorem spot_lock {w W0 : World} {pb po : Nat} {T : TypeId} {A : Array Value} {x y z : Value} {t m : Int} (hs : Spot w pb po T A x y z) (h0 : W0 = w.alloc (.cells #[.int .i64 t, .int .i64 m] 62)) :
    ∀ W, Below W0.heap.size W0 W → W.cell? ⟨pb, po, none⟩ = some x ∧ W.cell? ⟨pb, po + 1, none⟩ = some y ∧ W.cell? ⟨pb, po + 2, none⟩ = some z ∧ W.cell? ⟨w.heap.size, 0, none⟩ = some (.int .i64 t) ∧ W.cell? ⟨w.heap.size, 1, none⟩ = some (.int .i64 m) := fun W hW => by
  subst h0
  obtain ⟨c0, c1, c2, _⟩ := (hs.below (below_tr (bx _ _) hW)).cells
  obtain ⟨d0, d1⟩ := box2 hW
  exact ⟨c0, c1, c2, d0, d1⟩

theorem one_below {W W' : World} {vb : Nat} {b : Lk.Lo} (h : OneAt W vb b) (hb : Below W.heap.size W W') : OneAt W' vb b := (hb.block _ h.lt).trans h
theorem goes_two {w W w' : World} {own own' : Nat → Prop} (hb : Below w.heap.size w W) (hg : Goes own W w' own') : Goes own w w' (fun _ => False) :=
  ⟨hg.os.trans hb.os, hg.tape.trans hb.tape, hg.output.trans hb.output, Nat.le_trans hb.size hg.size, fun k hk hn => (hg.block k (Nat.lt_of_lt_of_le hk hb.size) hn).trans (hb.block k hk), fun _ h => h.elim⟩
theorem lock_goes {wc W w' : World} {own own' : Nat → Prop} {B : Nat} {t m : Int} (hb : Below wc.heap.size wc W) (hB : B < wc.heap.size) (h : W.cell? ⟨B, 0, none⟩ = some (.int .i64 t) ∧ W.cell? ⟨B, 1, none⟩ = some (.int .i64 m)) (hg : Goes own W w' own') (hn : ¬ own B) : w'.cell? ⟨B, 0, none⟩ = some (.int .i64 t) ∧ w'.cell? ⟨B, 1, none⟩ = some (.int .i64 m) :=
  have e := hg.block B (Nat.lt_of_lt_of_le hB hb.size) hn
  ⟨(World.cell?_of_block (a := ⟨B, 0, none⟩) e).trans h.1, (World.cell?_of_block (a := ⟨B, 1, none⟩) e).trans h.2⟩
theorem held_set {W : World} {pb po B : Nat} {x y u v z : Value} (hn : pb ≠ B) (h : W.cell? ⟨pb, po, none⟩ = some x ∧ W.cell? ⟨pb, po + 1, none⟩ = some y ∧ W.cell? ⟨B, 0, none⟩ = some u ∧ W.cell? ⟨B, 1, none⟩ = some v) :
    (W.setCell ⟨pb, po + 2, none⟩ z).cell? ⟨pb, po, none⟩ = some x ∧ (W.setCell ⟨pb, po + 2, none⟩ z).cell? ⟨pb, po + 1, none⟩ = some y ∧ (W.setCell ⟨pb, po + 2, none⟩ z).cell? ⟨B, 0, none⟩ = some u ∧ (W.setCell ⟨pb, po + 2, none⟩ z).cell? ⟨B, 1, none⟩ = some v := by
  obtain ⟨h1, h2, h3, h4⟩ := h
  refine ⟨?_, ?_, ?_, ?_⟩
  · rw [World.cell?_setCell_other _ _ _ _ (by intro e; injection e with _ e2 _; omega)]; exact h1
  · rw [World.cell?_setCell_other _ _ _ _ (by intro e; injection e with _ e2 _; omega)]; exact h2
  · rw [World.cell?_setCell_other _ _ _ _ (by intro e; injection e with e1 _ _; exact hn e1)]; exact h3
  · rw [World.cell?_setCell_other _ _ _ _ (by intro e; injection e with e1 _ _; exact hn e1)]; exact h4

set_option maxHeartbeats 8000000 in
theorem ask_any (w : World) (base pb po : Nat) (T : TypeId) (A : Array Value) (i : Int) (vh vq : Value) (H Q : List Lk.Lo) (l : Lk.Lo) (hs : Spot w pb po T A (.int .i64 i) vh vq) (hH : OwnLk w base vh H) (hQ : OwnLk w base vq Q) (hap : ∀ g, vh.ownBlock = some g → vq.ownBlock ≠ some g) (hT : T ≠ 62) (hb : base ≤ w.heap.size) (lH : H.length ≤ 2000) (lQ : Q.length ≤ 2000) :
    Calls Try.prog 51 #[.pointer (some ⟨pb, po, none⟩), .agg #[.int .i64 l.x, .int .i64 l.m]] w fun e w' => ∃ vh' vq', e = .returned (.bool (Lk.now ⟨i, H, Q⟩ l)) ∧ Spot w' pb po T ((A.setIfInBounds (po + 1) vh').setIfInBounds (po + 2) vq') (.int .i64 i) vh' vq' ∧ OwnLk w' base vh' (Lk.ask ⟨i, H, Q⟩ l).h ∧ OwnLk w' base vq' (Lk.ask ⟨i, H, Q⟩ l).q ∧ Goes (fun b => b = pb ∨ vh.ownBlock = some b ∨ vq.ownBlock = some b) w w' (fun _ => False) := by
  obtain ⟨t, m⟩ := l
  simp only
  obtain ⟨ah, ch, rfl, hp, _, h1, h2⟩ := hH.at_
  obtain ⟨aq, cq, rfl, qp, _, q1, q2⟩ := hQ.at_
  have KC := hid fun W hW => canBeGiven_any W (.int .i64 i) ah ch H (.slice aq Q.length cq) ⟨t, m⟩ (hp.below hW) lH
  have KH := hid fun W hW => holds_any W (.int .i64 i) ah ch H (.slice aq Q.length cq) t (hp.below hW) (by omega)
  have KG := hid fun W (hW : Below w.heap.size w W) => give_any W base pb po T A i _ _ H ⟨t, m⟩ (hs.below hW) (hH.below hW) hT (Nat.le_trans hb hW.size) lH
  simp only at KC KG
  obtain ⟨W0, hW0⟩ : ∃ W0, W0 = w.alloc (.cells #[.int .i64 t, .int .i64 m] 62) := ⟨_, rfl⟩
  have SB := hid (spot_lock hs hW0)
  have B0 : Hid (Below w.heap.size w W0) := by show Below _ _ _; rw [hW0]; exact bx _ _
  have BD : Below W0.heap.size W0 W0.drew := (Below.refl _ _).drew
  have HW0 := hid hW0
  obtain ⟨B, hB⟩ : ∃ B, B = w.heap.size := ⟨_, rfl⟩
  have HB := hid hB
  rw [← hB] at SB
  have HQn := hid (show Lk.now ⟨i, H, Q⟩ ⟨t, m⟩ = (Lk.can H ⟨t, m⟩ && (Lk.has H t || Q.isEmpty)) from rfl)
  obtain ⟨y, hy⟩ : ∃ y, y = Lk.now ⟨i, H, Q⟩ ⟨t, m⟩ := ⟨_, rfl⟩
  have HA1 : Hid (y = true → Lk.ask ⟨i, H, Q⟩ ⟨t, m⟩ = ⟨i, Lk.give H ⟨t, m⟩, Q⟩) := fun h => by unfold Lk.ask; rw [if_pos (by rw [← hy]; exact h)]
  have HA2 : Hid (y = false → Lk.ask ⟨i, H, Q⟩ ⟨t, m⟩ = ⟨i, H, Q.take (Lk.spot H Q t) ++ ⟨t, m⟩ :: Q.drop (Lk.spot H Q t)⟩) := fun h => by unfold Lk.ask; rw [if_neg (by rw [← hy, h]; simp)]
  rw [← hy] at HQn ⊢
  clear hW0 hB hy
  have S := hid hs
  have OH := hid hH
  have OQ := hid hQ
  have hap := hid hap
  have HE : Hid (Q.isEmpty = ((Q.length : Int) == 0)) := by
    show _ = _
    cases Q with
    | nil => rfl
    | cons a Q =>
      symm
      simp
      omega
  clear hs hH hQ hp qp
  go_enter Try.func51, Try.ntmps51
  go_upto_region 1 with fail
  rw [← HW0.out, HB.out.symm]
  go_cut [25] from 5 to 25 (fun v wx => v = .bool y ∧ Hid (Below W0.heap.size W0 wx))
  case first => --OK
    have KC' := KC.out
    cases hC : Lk.can H ⟨t, m⟩ with
    | false =>
      have hyf : y = false := by have := HQn.out; rw [hC] at this; simpa using this
      rw [hC] at KC
      subst hyf
      refine wp_region_held_drew (S := fun W => W.cell? ⟨pb, po, none⟩ = some (.int .i64 i) ∧ W.cell? ⟨pb, po + 1, none⟩ = some (.slice ah H.length ch) ∧ W.cell? ⟨pb, po + 2, none⟩ = some (.slice aq Q.length cq) ∧ W.cell? ⟨B, 0, none⟩ = some (.int .i64 t) ∧ W.cell? ⟨B, 1, none⟩ = some (.int .i64 m)) (by kernel_rfl) (SB.out _ BD) (fun hHeld => ?_)
      refine wpAnyH_take (i := 0) (v := ?tv1) rfl (by kernel_rfl) (by kernel_rfl) (by kernel_rfl) (fun _ _ _ h => h) (Or.inl ⟨by rfl, ?th1⟩) (by assumption) ?tr1
      case th1 => (intro w hSw; (try dsimp only at hSw); go_simp; all_goals (with_reducible rfl))
      simp only [Act.put, List.getElem_toArray, List.getElem_cons_zero, List.setIfInBounds_toArray, List.set_cons_zero, List.set_cons_succ]
      refine wpAnyH_take (i := 1) (v := ?tv2) rfl (by kernel_rfl) (by kernel_rfl) (by kernel_rfl) (fun _ _ _ h => h) (Or.inl ⟨by rfl, ?th2⟩) (by assumption) ?tr2
      case th2 => (intro w hSw; (try dsimp only at hSw); go_simp; all_goals (with_reducible rfl))
      simp only [Act.put, List.getElem_toArray, List.getElem_cons_zero, List.getElem_cons_succ, List.setIfInBounds_toArray, List.set_cons_zero, List.set_cons_succ]
      refine wpAnyH_take (i := 2) (v := ?tv3) rfl (by kernel_rfl) (by kernel_rfl) (by kernel_rfl) (fun _ _ _ h => h) (Or.inl ⟨by rfl, ?th3⟩) (by assumption) ?tr3
      case th3 => (intro w hSw; (try dsimp only at hSw); go_simp; all_goals (with_reducible rfl))
      simp only [Act.put, List.getElem_toArray, List.getElem_cons_zero, List.getElem_cons_succ, List.setIfInBounds_toArray, List.set_cons_zero, List.set_cons_succ]
      refine wpAnyH_take (i := 3) (v := ?tv4) rfl (by kernel_rfl) (by kernel_rfl) (by kernel_rfl) (fun _ _ _ h => h) (Or.inl ⟨by rfl, ?th4⟩) (by assumption) ?tr4
      case th4 => (intro w hSw; (try dsimp only at hSw); go_simp; all_goals (with_reducible rfl))
      simp only [Act.put, List.getElem_toArray, List.getElem_cons_zero, List.getElem_cons_succ, List.setIfInBounds_toArray, List.set_cons_zero, List.set_cons_succ]
      refine wpAnyH_ready (rs := [4]) (by kernel_rfl) (by simp) ?_
      refine AllReadyH.cons rfl (fun K hK => ?_) AllReadyH.nil
      go_simp
      refine (KC.out _ (below_tr B0.out BD)).mono ?_
      rintro r v4 ⟨rfl, hv4⟩
      have C1 : Below W0.heap.size W0 v4 := below_tr BD hv4
      clear hv4
      refine hK.out _ _ (SB.out _ C1) (fun hHeld => ?_)
      clear hK K
      try simp only [Act.put, List.getElem_toArray, List.getElem_cons_zero, List.getElem_cons_succ, List.setIfInBounds_toArray, List.set_cons_zero, List.set_cons_succ]
      refine wpAnyH_take (i := 5) (v := ?tv5) rfl (by kernel_rfl) (by kernel_rfl) (by kernel_rfl) (fun _ _ _ h => h) (Or.inl ⟨by rfl, ?th5⟩) (by assumption) ?tr5
      case th5 => (intro w hSw; (try dsimp only at hSw); go_simp; all_goals (with_reducible rfl))
      simp only [Act.put, List.getElem_toArray, List.getElem_cons_zero, List.getElem_cons_succ, List.setIfInBounds_toArray, List.set_cons_zero, List.set_cons_succ]
      refine wpAnyH_take (i := 6) (v := undef) rfl (by kernel_rfl) (by kernel_rfl) (by kernel_rfl) (fun _ _ _ h => h) (Or.inr ⟨by rfl, rfl⟩) (by assumption) ?_
      try simp only [Act.put, List.getElem_toArray, List.getElem_cons_zero, List.getElem_cons_succ, List.setIfInBounds_toArray, List.set_cons_zero, List.set_cons_succ]
      refine wpAnyH_take (i := 7) (v := undef) rfl (by kernel_rfl) (by kernel_rfl) (by kernel_rfl) (fun _ _ _ h => h) (Or.inr ⟨by rfl, rfl⟩) (by assumption) ?_
      try simp only [Act.put, List.getElem_toArray, List.getElem_cons_zero, List.getElem_cons_succ, List.setIfInBounds_toArray, List.set_cons_zero, List.set_cons_succ]
      refine wpAnyH_take (i := 8) (v := undef) rfl (by kernel_rfl) (by kernel_rfl) (by kernel_rfl) (fun _ _ _ h => h) (Or.inr ⟨by rfl, rfl⟩) (by assumption) ?_
      try simp only [Act.put, List.getElem_toArray, List.getElem_cons_zero, List.getElem_cons_succ, List.setIfInBounds_toArray, List.set_cons_zero, List.set_cons_succ]
      refine wpAnyH_take (i := 9) (v := undef) rfl (by kernel_rfl) (by kernel_rfl) (by kernel_rfl) (fun _ _ _ h => h) (Or.inr ⟨by rfl, rfl⟩) (by assumption) ?_
      try simp only [Act.put, List.getElem_toArray, List.getElem_cons_zero, List.getElem_cons_succ, List.setIfInBounds_toArray, List.set_cons_zero, List.set_cons_succ]
      refine wpAnyH_take (i := 10) (v := undef) rfl (by kernel_rfl) (by kernel_rfl) (by kernel_rfl) (fun _ _ _ h => h) (Or.inr ⟨by rfl, rfl⟩) (by assumption) ?_
      try simp only [Act.put, List.getElem_toArray, List.getElem_cons_zero, List.getElem_cons_succ, List.setIfInBounds_toArray, List.set_cons_zero, List.set_cons_succ]
      refine wpAnyH_take (i := 11) (v := undef) rfl (by kernel_rfl) (by kernel_rfl) (by kernel_rfl) (fun _ _ _ h => h) (Or.inr ⟨by rfl, rfl⟩) (by assumption) ?_
      try simp only [Act.put, List.getElem_toArray, List.getElem_cons_zero, List.getElem_cons_succ, List.setIfInBounds_toArray, List.set_cons_zero, List.set_cons_succ]
      refine wpAnyH_take (i := 12) (v := undef) rfl (by kernel_rfl) (by kernel_rfl) (by kernel_rfl) (fun _ _ _ h => h) (Or.inr ⟨by rfl, rfl⟩) (by assumption) ?_
      try simp only [Act.put, List.getElem_toArray, List.getElem_cons_zero, List.getElem_cons_succ, List.setIfInBounds_toArray, List.set_cons_zero, List.set_cons_succ]
      refine wpAnyH_take (i := 13) (v := undef) rfl (by kernel_rfl) (by kernel_rfl) (by kernel_rfl) (fun _ _ _ h => h) (Or.inr ⟨by rfl, rfl⟩) (by assumption) ?_
      try simp only [Act.put, List.getElem_toArray, List.getElem_cons_zero, List.getElem_cons_succ, List.setIfInBounds_toArray, List.set_cons_zero, List.set_cons_succ]
      refine wpAnyH_take (i := 14) (v := undef) rfl (by kernel_rfl) (by kernel_rfl) (by kernel_rfl) (fun _ _ _ h => h) (Or.inr ⟨by rfl, rfl⟩) (by assumption) ?_
      try simp only [Act.put, List.getElem_toArray, List.getElem_cons_zero, List.getElem_cons_succ, List.setIfInBounds_toArray, List.set_cons_zero, List.set_cons_succ]
      refine wpAnyH_take (i := 15) (v := undef) rfl (by kernel_rfl) (by kernel_rfl) (by kernel_rfl) (fun _ _ _ h => h) (Or.inr ⟨by rfl, rfl⟩) (by assumption) ?_
      try simp only [Act.put, List.getElem_toArray, List.getElem_cons_zero, List.getElem_cons_succ, List.setIfInBounds_toArray, List.set_cons_zero, List.set_cons_succ]
      refine wpAnyH_take (i := 16) (v := undef) rfl (by kernel_rfl) (by kernel_rfl) (by kernel_rfl) (fun _ _ _ h => h) (Or.inr ⟨by rfl, rfl⟩) (by assumption) ?_
      try simp only [Act.put, List.getElem_toArray, List.getElem_cons_zero, List.getElem_cons_succ, List.setIfInBounds_toArray, List.set_cons_zero, List.set_cons_succ]
      refine wpAnyH_take (i := 17) (v := undef) rfl (by kernel_rfl) (by kernel_rfl) (by kernel_rfl) (fun _ _ _ h => h) (Or.inr ⟨by rfl, rfl⟩) (by assumption) ?_
      try simp only [Act.put, List.getElem_toArray, List.getElem_cons_zero, List.getElem_cons_succ, List.setIfInBounds_toArray, List.set_cons_zero, List.set_cons_succ]
      refine wpAnyH_take (i := 18) (v := undef) rfl (by kernel_rfl) (by kernel_rfl) (by kernel_rfl) (fun _ _ _ h => h) (Or.inr ⟨by rfl, rfl⟩) (by assumption) ?_
      try simp only [Act.put, List.getElem_toArray, List.getElem_cons_zero, List.getElem_cons_succ, List.setIfInBounds_toArray, List.set_cons_zero, List.set_cons_succ]
      refine wpAnyH_take (i := 19) (v := undef) rfl (by kernel_rfl) (by kernel_rfl) (by kernel_rfl) (fun _ _ _ h => h) (Or.inr ⟨by rfl, rfl⟩) (by assumption) ?_
      try simp only [Act.put, List.getElem_toArray, List.getElem_cons_zero, List.getElem_cons_succ, List.setIfInBounds_toArray, List.set_cons_zero, List.set_cons_succ]
      refine wpAnyH_take (i := 20) (v := ?tv6) rfl (by kernel_rfl) (by kernel_rfl) (by kernel_rfl) (fun _ _ _ h => h) (Or.inl ⟨by rfl, ?th6⟩) (by assumption) ?tr6
      case th6 => (intro w hSw; (try dsimp only at hSw); go_simp; all_goals (with_reducible rfl))
      simp only [Act.put, List.getElem_toArray, List.getElem_cons_zero, List.getElem_cons_succ, List.setIfInBounds_toArray, List.set_cons_zero, List.set_cons_succ]
      refine wpAnyH_done (by kernel_rfl) ?_ _
      go_wp2_with fail
      go_meet
      exact ⟨rfl, C1⟩
    | true =>
      rw [hC] at KC
      cases hH : Lk.has H t with
      | true =>
        have hyt : y = true := by have := HQn.out; rw [hC, hH] at this; simpa using this
        rw [hH] at KH
        subst hyt
        refine wp_region_held_drew (S := fun W => W.cell? ⟨pb, po, none⟩ = some (.int .i64 i) ∧ W.cell? ⟨pb, po + 1, none⟩ = some (.slice ah H.length ch) ∧ W.cell? ⟨pb, po + 2, none⟩ = some (.slice aq Q.length cq) ∧ W.cell? ⟨B, 0, none⟩ = some (.int .i64 t) ∧ W.cell? ⟨B, 1, none⟩ = some (.int .i64 m)) (by kernel_rfl) (SB.out _ BD) (fun hHeld => ?_)
        refine wpAnyH_take (i := 0) (v := ?tv7) rfl (by kernel_rfl) (by kernel_rfl) (by kernel_rfl) (fun _ _ _ h => h) (Or.inl ⟨by rfl, ?th7⟩) (by assumption) ?tr7
        case th7 => (intro w hSw; (try dsimp only at hSw); go_simp; all_goals (with_reducible rfl))
        simp only [Act.put, List.getElem_toArray, List.getElem_cons_zero, List.setIfInBounds_toArray, List.set_cons_zero, List.set_cons_succ]
        refine wpAnyH_take (i := 1) (v := ?tv8) rfl (by kernel_rfl) (by kernel_rfl) (by kernel_rfl) (fun _ _ _ h => h) (Or.inl ⟨by rfl, ?th8⟩) (by assumption) ?tr8
        case th8 => (intro w hSw; (try dsimp only at hSw); go_simp; all_goals (with_reducible rfl))
        simp only [Act.put, List.getElem_toArray, List.getElem_cons_zero, List.getElem_cons_succ, List.setIfInBounds_toArray, List.set_cons_zero, List.set_cons_succ]
        refine wpAnyH_take (i := 2) (v := ?tv9) rfl (by kernel_rfl) (by kernel_rfl) (by kernel_rfl) (fun _ _ _ h => h) (Or.inl ⟨by rfl, ?th9⟩) (by assumption) ?tr9
        case th9 => (intro w hSw; (try dsimp only at hSw); go_simp; all_goals (with_reducible rfl))
        simp only [Act.put, List.getElem_toArray, List.getElem_cons_zero, List.getElem_cons_succ, List.setIfInBounds_toArray, List.set_cons_zero, List.set_cons_succ]
        refine wpAnyH_take (i := 3) (v := ?tv10) rfl (by kernel_rfl) (by kernel_rfl) (by kernel_rfl) (fun _ _ _ h => h) (Or.inl ⟨by rfl, ?th10⟩) (by assumption) ?tr10
        case th10 => (intro w hSw; (try dsimp only at hSw); go_simp; all_goals (with_reducible rfl))
        simp only [Act.put, List.getElem_toArray, List.getElem_cons_zero, List.getElem_cons_succ, List.setIfInBounds_toArray, List.set_cons_zero, List.set_cons_succ]
        refine wpAnyH_ready (rs := [4]) (by kernel_rfl) (by simp) ?_
        refine AllReadyH.cons rfl (fun K hK => ?_) AllReadyH.nil
        go_simp
        refine (KC.out _ (below_tr B0.out BD)).mono ?_
        rintro r v4 ⟨rfl, hv4⟩
        have C1 : Below W0.heap.size W0 v4 := below_tr BD hv4
        clear hv4
        refine hK.out _ _ (SB.out _ C1) (fun hHeld => ?_)
        clear hK K
        try simp only [Act.put, List.getElem_toArray, List.getElem_cons_zero, List.getElem_cons_succ, List.setIfInBounds_toArray, List.set_cons_zero, List.set_cons_succ]
        refine wpAnyH_take (i := 5) (v := ?tv11) rfl (by kernel_rfl) (by kernel_rfl) (by kernel_rfl) (fun _ _ _ h => h) (Or.inl ⟨by rfl, ?th11⟩) (by assumption) ?tr11
        case th11 => (intro w hSw; (try dsimp only at hSw); go_simp; all_goals (with_reducible rfl))
        simp only [Act.put, List.getElem_toArray, List.getElem_cons_zero, List.getElem_cons_succ, List.setIfInBounds_toArray, List.set_cons_zero, List.set_cons_succ]
        refine wpAnyH_take (i := 6) (v := ?tv12) rfl (by kernel_rfl) (by kernel_rfl) (by kernel_rfl) (fun _ _ _ h => h) (Or.inl ⟨by rfl, ?th12⟩) (by assumption) ?tr12
        case th12 => (intro w hSw; (try dsimp only at hSw); go_simp; all_goals (with_reducible rfl))
        simp only [Act.put, List.getElem_toArray, List.getElem_cons_zero, List.getElem_cons_succ, List.setIfInBounds_toArray, List.set_cons_zero, List.set_cons_succ]
        refine wpAnyH_take (i := 7) (v := ?tv13) rfl (by kernel_rfl) (by kernel_rfl) (by kernel_rfl) (fun _ _ _ h => h) (Or.inl ⟨by rfl, ?th13⟩) (by assumption) ?tr13
        case th13 => (intro w hSw; (try dsimp only at hSw); go_simp; all_goals (with_reducible rfl))
        simp only [Act.put, List.getElem_toArray, List.getElem_cons_zero, List.getElem_cons_succ, List.setIfInBounds_toArray, List.set_cons_zero, List.set_cons_succ]
        refine wpAnyH_take (i := 8) (v := ?tv14) rfl (by kernel_rfl) (by kernel_rfl) (by kernel_rfl) (fun _ _ _ h => h) (Or.inl ⟨by rfl, ?th14⟩) (by assumption) ?tr14
        case th14 => (intro w hSw; (try dsimp only at hSw); go_simp; all_goals (with_reducible rfl))
        simp only [Act.put, List.getElem_toArray, List.getElem_cons_zero, List.getElem_cons_succ, List.setIfInBounds_toArray, List.set_cons_zero, List.set_cons_succ]
        refine wpAnyH_take (i := 9) (v := ?tv15) rfl (by kernel_rfl) (by kernel_rfl) (by kernel_rfl) (fun _ _ _ h => h) (Or.inl ⟨by rfl, ?th15⟩) (by assumption) ?tr15
        case th15 => (intro w hSw; (try dsimp only at hSw); go_simp; all_goals (with_reducible rfl))
        simp only [Act.put, List.getElem_toArray, List.getElem_cons_zero, List.getElem_cons_succ, List.setIfInBounds_toArray, List.set_cons_zero, List.set_cons_succ]
        refine wpAnyH_take (i := 10) (v := ?tv16) rfl (by kernel_rfl) (by kernel_rfl) (by kernel_rfl) (fun _ _ _ h => h) (Or.inl ⟨by rfl, ?th16⟩) (by assumption) ?tr16
        case th16 => (intro w hSw; (try dsimp only at hSw); go_simp; all_goals (with_reducible rfl))
        simp only [Act.put, List.getElem_toArray, List.getElem_cons_zero, List.getElem_cons_succ, List.setIfInBounds_toArray, List.set_cons_zero, List.set_cons_succ]
        refine wpAnyH_ready (rs := [11]) (by kernel_rfl) (by simp) ?_
        refine AllReadyH.cons rfl (fun K hK => ?_) AllReadyH.nil
        go_simp
        refine (KH.out _ (below_tr B0.out C1)).mono ?_
        rintro r v11 ⟨rfl, hv11⟩
        have C2 : Below W0.heap.size W0 v11 := below_tr C1 hv11
        clear hv11
        refine hK.out _ _ (SB.out _ C2) (fun hHeld => ?_)
        clear hK K
        try simp only [Act.put, List.getElem_toArray, List.getElem_cons_zero, List.getElem_cons_succ, List.setIfInBounds_toArray, List.set_cons_zero, List.set_cons_succ]
        refine wpAnyH_take (i := 12) (v := ?tv17) rfl (by kernel_rfl) (by kernel_rfl) (by kernel_rfl) (fun _ _ _ h => h) (Or.inl ⟨by rfl, ?th17⟩) (by assumption) ?tr17
        case th17 => (intro w hSw; (try dsimp only at hSw); go_simp; all_goals (with_reducible rfl))
        simp only [Act.put, List.getElem_toArray, List.getElem_cons_zero, List.getElem_cons_succ, List.setIfInBounds_toArray, List.set_cons_zero, List.set_cons_succ]
        refine wpAnyH_take (i := 13) (v := undef) rfl (by kernel_rfl) (by kernel_rfl) (by kernel_rfl) (fun _ _ _ h => h) (Or.inr ⟨by rfl, rfl⟩) (by assumption) ?_
        try simp only [Act.put, List.getElem_toArray, List.getElem_cons_zero, List.getElem_cons_succ, List.setIfInBounds_toArray, List.set_cons_zero, List.set_cons_succ]
        refine wpAnyH_take (i := 14) (v := undef) rfl (by kernel_rfl) (by kernel_rfl) (by kernel_rfl) (fun _ _ _ h => h) (Or.inr ⟨by rfl, rfl⟩) (by assumption) ?_
        try simp only [Act.put, List.getElem_toArray, List.getElem_cons_zero, List.getElem_cons_succ, List.setIfInBounds_toArray, List.set_cons_zero, List.set_cons_succ]
        refine wpAnyH_take (i := 15) (v := undef) rfl (by kernel_rfl) (by kernel_rfl) (by kernel_rfl) (fun _ _ _ h => h) (Or.inr ⟨by rfl, rfl⟩) (by assumption) ?_
        try simp only [Act.put, List.getElem_toArray, List.getElem_cons_zero, List.getElem_cons_succ, List.setIfInBounds_toArray, List.set_cons_zero, List.set_cons_succ]
        refine wpAnyH_take (i := 16) (v := undef) rfl (by kernel_rfl) (by kernel_rfl) (by kernel_rfl) (fun _ _ _ h => h) (Or.inr ⟨by rfl, rfl⟩) (by assumption) ?_
        try simp only [Act.put, List.getElem_toArray, List.getElem_cons_zero, List.getElem_cons_succ, List.setIfInBounds_toArray, List.set_cons_zero, List.set_cons_succ]
        refine wpAnyH_take (i := 17) (v := undef) rfl (by kernel_rfl) (by kernel_rfl) (by kernel_rfl) (fun _ _ _ h => h) (Or.inr ⟨by rfl, rfl⟩) (by assumption) ?_
        try simp only [Act.put, List.getElem_toArray, List.getElem_cons_zero, List.getElem_cons_succ, List.setIfInBounds_toArray, List.set_cons_zero, List.set_cons_succ]
        refine wpAnyH_take (i := 18) (v := undef) rfl (by kernel_rfl) (by kernel_rfl) (by kernel_rfl) (fun _ _ _ h => h) (Or.inr ⟨by rfl, rfl⟩) (by assumption) ?_
        try simp only [Act.put, List.getElem_toArray, List.getElem_cons_zero, List.getElem_cons_succ, List.setIfInBounds_toArray, List.set_cons_zero, List.set_cons_succ]
        refine wpAnyH_take (i := 19) (v := ?tv18) rfl (by kernel_rfl) (by kernel_rfl) (by kernel_rfl) (fun _ _ _ h => h) (Or.inl ⟨by rfl, ?th18⟩) (by assumption) ?tr18
        case th18 => (intro w hSw; (try dsimp only at hSw); go_simp; all_goals (with_reducible rfl))
        simp only [Act.put, List.getElem_toArray, List.getElem_cons_zero, List.getElem_cons_succ, List.setIfInBounds_toArray, List.set_cons_zero, List.set_cons_succ]
        refine wpAnyH_take (i := 20) (v := ?tv19) rfl (by kernel_rfl) (by kernel_rfl) (by kernel_rfl) (fun _ _ _ h => h) (Or.inl ⟨by rfl, ?th19⟩) (by assumption) ?tr19
        case th19 => (intro w hSw; (try dsimp only at hSw); go_simp; all_goals (with_reducible rfl))
        simp only [Act.put, List.getElem_toArray, List.getElem_cons_zero, List.getElem_cons_succ, List.setIfInBounds_toArray, List.set_cons_zero, List.set_cons_succ]
        refine wpAnyH_done (by kernel_rfl) ?_ _
        go_wp2_with fail
        go_meet
        exact ⟨rfl, C2⟩
      | false =>
        have hyt : ((Q.length : Int) == 0) = y := by have := HQn.out; rw [hC, hH, HE.out] at this; simpa using this.symm
        rw [hH] at KH
        refine wp_region_held_drew (S := fun W => W.cell? ⟨pb, po, none⟩ = some (.int .i64 i) ∧ W.cell? ⟨pb, po + 1, none⟩ = some (.slice ah H.length ch) ∧ W.cell? ⟨pb, po + 2, none⟩ = some (.slice aq Q.length cq) ∧ W.cell? ⟨B, 0, none⟩ = some (.int .i64 t) ∧ W.cell? ⟨B, 1, none⟩ = some (.int .i64 m)) (by kernel_rfl) (SB.out _ BD) (fun hHeld => ?_)
        refine wpAnyH_take (i := 0) (v := ?tv20) rfl (by kernel_rfl) (by kernel_rfl) (by kernel_rfl) (fun _ _ _ h => h) (Or.inl ⟨by rfl, ?th20⟩) (by assumption) ?tr20
        case th20 => (intro w hSw; (try dsimp only at hSw); go_simp; all_goals (with_reducible rfl))
        simp only [Act.put, List.getElem_toArray, List.getElem_cons_zero, List.setIfInBounds_toArray, List.set_cons_zero, List.set_cons_succ]
        refine wpAnyH_take (i := 1) (v := ?tv21) rfl (by kernel_rfl) (by kernel_rfl) (by kernel_rfl) (fun _ _ _ h => h) (Or.inl ⟨by rfl, ?th21⟩) (by assumption) ?tr21
        case th21 => (intro w hSw; (try dsimp only at hSw); go_simp; all_goals (with_reducible rfl))
        simp only [Act.put, List.getElem_toArray, List.getElem_cons_zero, List.getElem_cons_succ, List.setIfInBounds_toArray, List.set_cons_zero, List.set_cons_succ]
        refine wpAnyH_take (i := 2) (v := ?tv22) rfl (by kernel_rfl) (by kernel_rfl) (by kernel_rfl) (fun _ _ _ h => h) (Or.inl ⟨by rfl, ?th22⟩) (by assumption) ?tr22
        case th22 => (intro w hSw; (try dsimp only at hSw); go_simp; all_goals (with_reducible rfl))
        simp only [Act.put, List.getElem_toArray, List.getElem_cons_zero, List.getElem_cons_succ, List.setIfInBounds_toArray, List.set_cons_zero, List.set_cons_succ]
        refine wpAnyH_take (i := 3) (v := ?tv23) rfl (by kernel_rfl) (by kernel_rfl) (by kernel_rfl) (fun _ _ _ h => h) (Or.inl ⟨by rfl, ?th23⟩) (by assumption) ?tr23
        case th23 => (intro w hSw; (try dsimp only at hSw); go_simp; all_goals (with_reducible rfl))
        simp only [Act.put, List.getElem_toArray, List.getElem_cons_zero, List.getElem_cons_succ, List.setIfInBounds_toArray, List.set_cons_zero, List.set_cons_succ]
        refine wpAnyH_ready (rs := [4]) (by kernel_rfl) (by simp) ?_
        refine AllReadyH.cons rfl (fun K hK => ?_) AllReadyH.nil
        go_simp
        refine (KC.out _ (below_tr B0.out BD)).mono ?_
        rintro r v4 ⟨rfl, hv4⟩
        have C1 : Below W0.heap.size W0 v4 := below_tr BD hv4
        clear hv4
        refine hK.out _ _ (SB.out _ C1) (fun hHeld => ?_)
        clear hK K
        try simp only [Act.put, List.getElem_toArray, List.getElem_cons_zero, List.getElem_cons_succ, List.setIfInBounds_toArray, List.set_cons_zero, List.set_cons_succ]
        refine wpAnyH_take (i := 5) (v := ?tv24) rfl (by kernel_rfl) (by kernel_rfl) (by kernel_rfl) (fun _ _ _ h => h) (Or.inl ⟨by rfl, ?th24⟩) (by assumption) ?tr24
        case th24 => (intro w hSw; (try dsimp only at hSw); go_simp; all_goals (with_reducible rfl))
        simp only [Act.put, List.getElem_toArray, List.getElem_cons_zero, List.getElem_cons_succ, List.setIfInBounds_toArray, List.set_cons_zero, List.set_cons_succ]
        refine wpAnyH_take (i := 6) (v := ?tv25) rfl (by kernel_rfl) (by kernel_rfl) (by kernel_rfl) (fun _ _ _ h => h) (Or.inl ⟨by rfl, ?th25⟩) (by assumption) ?tr25
        case th25 => (intro w hSw; (try dsimp only at hSw); go_simp; all_goals (with_reducible rfl))
        simp only [Act.put, List.getElem_toArray, List.getElem_cons_zero, List.getElem_cons_succ, List.setIfInBounds_toArray, List.set_cons_zero, List.set_cons_succ]
        refine wpAnyH_take (i := 7) (v := ?tv26) rfl (by kernel_rfl) (by kernel_rfl) (by kernel_rfl) (fun _ _ _ h => h) (Or.inl ⟨by rfl, ?th26⟩) (by assumption) ?tr26
        case th26 => (intro w hSw; (try dsimp only at hSw); go_simp; all_goals (with_reducible rfl))
        simp only [Act.put, List.getElem_toArray, List.getElem_cons_zero, List.getElem_cons_succ, List.setIfInBounds_toArray, List.set_cons_zero, List.set_cons_succ]
        refine wpAnyH_take (i := 8) (v := ?tv27) rfl (by kernel_rfl) (by kernel_rfl) (by kernel_rfl) (fun _ _ _ h => h) (Or.inl ⟨by rfl, ?th27⟩) (by assumption) ?tr27
        case th27 => (intro w hSw; (try dsimp only at hSw); go_simp; all_goals (with_reducible rfl))
        simp only [Act.put, List.getElem_toArray, List.getElem_cons_zero, List.getElem_cons_succ, List.setIfInBounds_toArray, List.set_cons_zero, List.set_cons_succ]
        refine wpAnyH_take (i := 9) (v := ?tv28) rfl (by kernel_rfl) (by kernel_rfl) (by kernel_rfl) (fun _ _ _ h => h) (Or.inl ⟨by rfl, ?th28⟩) (by assumption) ?tr28
        case th28 => (intro w hSw; (try dsimp only at hSw); go_simp; all_goals (with_reducible rfl))
        simp only [Act.put, List.getElem_toArray, List.getElem_cons_zero, List.getElem_cons_succ, List.setIfInBounds_toArray, List.set_cons_zero, List.set_cons_succ]
        refine wpAnyH_take (i := 10) (v := ?tv29) rfl (by kernel_rfl) (by kernel_rfl) (by kernel_rfl) (fun _ _ _ h => h) (Or.inl ⟨by rfl, ?th29⟩) (by assumption) ?tr29
        case th29 => (intro w hSw; (try dsimp only at hSw); go_simp; all_goals (with_reducible rfl))
        simp only [Act.put, List.getElem_toArray, List.getElem_cons_zero, List.getElem_cons_succ, List.setIfInBounds_toArray, List.set_cons_zero, List.set_cons_succ]
        refine wpAnyH_ready (rs := [11]) (by kernel_rfl) (by simp) ?_
        refine AllReadyH.cons rfl (fun K hK => ?_) AllReadyH.nil
        go_simp
        refine (KH.out _ (below_tr B0.out C1)).mono ?_
        rintro r v11 ⟨rfl, hv11⟩
        have C2 : Below W0.heap.size W0 v11 := below_tr C1 hv11
        clear hv11
        refine hK.out _ _ (SB.out _ C2) (fun hHeld => ?_)
        clear hK K
        try simp only [Act.put, List.getElem_toArray, List.getElem_cons_zero, List.getElem_cons_succ, List.setIfInBounds_toArray, List.set_cons_zero, List.set_cons_succ]
        refine wpAnyH_take (i := 12) (v := ?tv30) rfl (by kernel_rfl) (by kernel_rfl) (by kernel_rfl) (fun _ _ _ h => h) (Or.inl ⟨by rfl, ?th30⟩) (by assumption) ?tr30
        case th30 => (intro w hSw; (try dsimp only at hSw); go_simp; all_goals (with_reducible rfl))
        simp only [Act.put, List.getElem_toArray, List.getElem_cons_zero, List.getElem_cons_succ, List.setIfInBounds_toArray, List.set_cons_zero, List.set_cons_succ]
        refine wpAnyH_take (i := 13) (v := ?tv31) rfl (by kernel_rfl) (by kernel_rfl) (by kernel_rfl) (fun _ _ _ h => h) (Or.inl ⟨by rfl, ?th31⟩) (by assumption) ?tr31
        case th31 => (intro w hSw; (try dsimp only at hSw); go_simp; all_goals (with_reducible rfl))
        simp only [Act.put, List.getElem_toArray, List.getElem_cons_zero, List.getElem_cons_succ, List.setIfInBounds_toArray, List.set_cons_zero, List.set_cons_succ]
        refine wpAnyH_take (i := 14) (v := ?tv32) rfl (by kernel_rfl) (by kernel_rfl) (by kernel_rfl) (fun _ _ _ h => h) (Or.inl ⟨by rfl, ?th32⟩) (by assumption) ?tr32
        case th32 => (intro w hSw; (try dsimp only at hSw); go_simp; all_goals (with_reducible rfl))
        simp only [Act.put, List.getElem_toArray, List.getElem_cons_zero, List.getElem_cons_succ, List.setIfInBounds_toArray, List.set_cons_zero, List.set_cons_succ]
        refine wpAnyH_take (i := 15) (v := ?tv33) rfl (by kernel_rfl) (by kernel_rfl) (by kernel_rfl) (fun _ _ _ h => h) (Or.inl ⟨by rfl, ?th33⟩) (by assumption) ?tr33
        case th33 => (intro w hSw; (try dsimp only at hSw); go_simp; all_goals (with_reducible rfl))
        simp only [Act.put, List.getElem_toArray, List.getElem_cons_zero, List.getElem_cons_succ, List.setIfInBounds_toArray, List.set_cons_zero, List.set_cons_succ]
        refine wpAnyH_take (i := 16) (v := ?tv34) rfl (by kernel_rfl) (by kernel_rfl) (by kernel_rfl) (fun _ _ _ h => h) (Or.inl ⟨by rfl, ?th34⟩) (by assumption) ?tr34
        case th34 => (intro w hSw; (try dsimp only at hSw); go_simp; all_goals (with_reducible rfl))
        simp only [Act.put, List.getElem_toArray, List.getElem_cons_zero, List.getElem_cons_succ, List.setIfInBounds_toArray, List.set_cons_zero, List.set_cons_succ]
        refine wpAnyH_take (i := 17) (v := ?tv35) rfl (by kernel_rfl) (by kernel_rfl) (by kernel_rfl) (fun _ _ _ h => h) (Or.inl ⟨by rfl, ?th35⟩) (by assumption) ?tr35
        case th35 => (intro w hSw; (try dsimp only at hSw); go_simp; all_goals (with_reducible rfl))
        simp only [Act.put, List.getElem_toArray, List.getElem_cons_zero, List.getElem_cons_succ, List.setIfInBounds_toArray, List.set_cons_zero, List.set_cons_succ]
        refine wpAnyH_take (i := 18) (v := ?tv36) rfl (by kernel_rfl) (by kernel_rfl) (by kernel_rfl) (fun _ _ _ h => h) (Or.inl ⟨by rfl, ?th36⟩) (by assumption) ?tr36
        case th36 => (intro w hSw; (try dsimp only at hSw); go_simp; all_goals (with_reducible rfl))
        simp only [Act.put, List.getElem_toArray, List.getElem_cons_zero, List.getElem_cons_succ, List.setIfInBounds_toArray, List.set_cons_zero, List.set_cons_succ]
        refine wpAnyH_take (i := 19) (v := ?tv37) rfl (by kernel_rfl) (by kernel_rfl) (by kernel_rfl) (fun _ _ _ h => h) (Or.inl ⟨by rfl, ?th37⟩) (by assumption) ?tr37
        case th37 => (intro w hSw; (try dsimp only at hSw); go_simp; all_goals (with_reducible rfl))
        simp only [Act.put, List.getElem_toArray, List.getElem_cons_zero, List.getElem_cons_succ, List.setIfInBounds_toArray, List.set_cons_zero, List.set_cons_succ]
        refine wpAnyH_take (i := 20) (v := ?tv38) rfl (by kernel_rfl) (by kernel_rfl) (by kernel_rfl) (fun _ _ _ h => h) (Or.inl ⟨by rfl, ?th38⟩) (by assumption) ?tr38
        case th38 => (intro w hSw; (try dsimp only at hSw); go_simp; all_goals (with_reducible rfl))
        simp only [Act.put, List.getElem_toArray, List.getElem_cons_zero, List.getElem_cons_succ, List.setIfInBounds_toArray, List.set_cons_zero, List.set_cons_succ]
        refine wpAnyH_done (by kernel_rfl) ?_ _
        go_wp2_with fail
        go_meet
        exact ⟨by rw [← hyt], C2⟩
  case rest =>
    obtain ⟨rfl, hW⟩ := hcut
    have BW : Hid (Below w.heap.size w wc) := below_tr B0.out hW.out
    obtain ⟨x0, x1, x2, y0, y1⟩ := SB.out wc hW.out
    cases y with
    | true =>
      have HA := hid (HA1.out rfl)
      have KG2 := hid (KG.out wc BW.out)
      clear HA1 HA2 HQn KC KH KG HE
      go_wp2_with fail
      refine KG2.out.mono ?_
      rintro r w2 ⟨vh', rfl, s2, o2, g2⟩
      have hvq : ∀ g, (Value.slice aq Q.length cq).ownBlock = some g → ¬ ownP pb (.slice ah H.length ch) g := fun g hg h => by
        rcases h with h | h
        · subst h; exact own_ne OQ.out S.out.blk hT hg
        · exact hap.out g h hg
      have O3 : Hid (OwnLk w2 base (.slice aq Q.length cq) Q) := (OQ.out.below BW.out).goes g2 hvq
      have S2 := hid s2
      have O2 := hid o2
      have G2 : Hid (Goes (ownP pb (.slice ah H.length ch)) w w2 (fun _ => False)) :=
        ⟨g2.os.trans BW.out.os, g2.tape.trans BW.out.tape, g2.output.trans BW.out.output, Nat.le_trans BW.out.size g2.size, fun k hk hn => (g2.block k (Nat.lt_of_lt_of_le hk BW.out.size) hn).trans (BW.out.block k hk), fun _ h => h.elim⟩
      clear s2 o2 g2 x0 x1 x2 y0 y1
      go_wp2_with fail
      go_ret
      refine ⟨vh', _, rfl, ?_, by rw [HA.out]; exact O2.out, by rw [HA.out]; exact O3.out, G2.out.os, G2.out.tape, G2.out.output, G2.out.size, fun k hk hn => G2.out.block k hk (fun h => hn (by rcases h with h | h; exact .inl h; exact .inr (.inl h))), fun _ h => h.elim⟩
      rw [set_same S2.out.c2]
      exact S2.out
    | false =>
      have HA := hid (HA2.out rfl)
      have KF := hid fun W hW => placeFor_any W i ah aq ch cq H Q t (own_lk (OH.out.below hW)) (by omega) (own_lk (OQ.out.below hW)) lQ
      clear HA1 HA2 HQn KC KH KG HE
      go_upto_region 4 with fail
      have hsp := Lk.spot_le H Q t
      obtain ⟨k, hk⟩ : ∃ k, k = Lk.spot H Q t := ⟨_, rfl⟩
      rw [← hk] at KF HA hsp
      clear hk
      obtain ⟨X2, hX2⟩ : ∃ X2, X2 = Q.take k ++ ⟨t, m⟩ :: Q.drop k := ⟨_, rfl⟩
      rw [← hX2] at HA
      have HX2 := hid hX2
      clear hX2
      have SW : Hid (∀ W, Below wc.heap.size wc W → W.cell? ⟨pb, po, none⟩ = some (.int .i64 i) ∧ W.cell? ⟨pb, po + 1, none⟩ = some (.slice ah H.length ch) ∧ W.cell? ⟨pb, po + 2, none⟩ = some (.slice aq Q.length cq) ∧ W.cell? ⟨B, 0, none⟩ = some (.int .i64 t) ∧ W.cell? ⟨B, 1, none⟩ = some (.int .i64 m)) := fun W h => SB.out W (below_tr hW.out h)
      have KI := hid fun W vb (hb2 : Below wc.heap.size wc W) (hv : OneAt W vb ⟨t, m⟩) (hlt : wc.heap.size ≤ vb) => insert_any W base (.slice aq Q.length cq) k vb Q ⟨t, m⟩ (OQ.out.below (below_tr BW.out hb2)) hv (fun e => by have := (OQ.out.lt _ e).2; have := BW.out.size; omega) lQ hsp (Nat.le_trans hb (below_tr BW.out hb2).size)
      have hnq : Hid (¬ ownB (.slice aq Q.length cq) pb) := fun h => own_ne OQ.out S.out.blk hT h
      have hbw : Hid (B < wc.heap.size) := Nat.lt_of_lt_of_le (World.block_lt_of_cell? W0 _ (SB.out W0 (Below.refl _ _)).2.2.2.1) hW.out.size
      have hnb : Hid (¬ ownB (.slice aq Q.length cq) B) := fun h => by have := (OQ.out.lt _ h).2; have := HB.out; omega
      have hpB : Hid (pb ≠ B) := fun e => by have := lt_of_heap S.out.blk; have := HB.out; omega
      go_cut [] from 29 to 44 (fun wx => ∃ vq' w4, wx = w4.setCell ⟨pb, po + 2, none⟩ vq' ∧ Hid (Spot w4 pb po T A (.int .i64 i) (.slice ah H.length ch) (.slice aq Q.length cq) ∧ OwnLk w4 base vq' X2 ∧ Goes (ownB (.slice aq Q.length cq)) w w4 (fun _ => False)))
      case first =>
        refine wp_region_held_drew (S := fun W => W.cell? ⟨pb, po, none⟩ = some (.int .i64 i) ∧ W.cell? ⟨pb, po + 1, none⟩ = some (.slice ah H.length ch) ∧ W.cell? ⟨B, 0, none⟩ = some (.int .i64 t) ∧ W.cell? ⟨B, 1, none⟩ = some (.int .i64 m)) (by kernel_rfl) ⟨x0, x1, y0, y1⟩ (fun hHeld => ?_)
        refine wpAnyH_take (i := 0) (v := ?tv39) rfl (by kernel_rfl) (by kernel_rfl) (by kernel_rfl) (fun _ _ _ h => h) (Or.inl ⟨by rfl, ?th39⟩) (by assumption) ?tr39
        case th39 => (intro w hSw; (try dsimp only at hSw); go_simp; all_goals (with_reducible rfl))
        simp only [Act.put, List.getElem_toArray, List.getElem_cons_zero, List.setIfInBounds_toArray, List.set_cons_zero, List.set_cons_succ]
        refine wpAnyH_take (i := 1) (v := ?tv40) rfl (by kernel_rfl) (by kernel_rfl) (by kernel_rfl) (fun _ _ _ h => h) (Or.inl ⟨by rfl, ?th40⟩) (by assumption) ?tr40
        case th40 => (intro w hSw; (try dsimp only at hSw); go_simp; all_goals (with_reducible rfl))
        simp only [Act.put, List.getElem_toArray, List.getElem_cons_zero, List.getElem_cons_succ, List.setIfInBounds_toArray, List.set_cons_zero, List.set_cons_succ]
        refine wpAnyH_take (i := 2) (v := ?tv41) rfl (by kernel_rfl) (by kernel_rfl) (by kernel_rfl) (fun _ _ _ h => h) (Or.inl ⟨by rfl, ?th41⟩) (by assumption) ?tr41
        case th41 => (intro w hSw; (try dsimp only at hSw); go_simp; all_goals (with_reducible rfl))
        simp only [Act.put, List.getElem_toArray, List.getElem_cons_zero, List.getElem_cons_succ, List.setIfInBounds_toArray, List.set_cons_zero, List.set_cons_succ]
        refine wpAnyH_take (i := 3) (v := ?tv42) rfl (by kernel_rfl) (by kernel_rfl) (by kernel_rfl) (fun _ _ _ h => h) (Or.inl ⟨by rfl, ?th42⟩) (by assumption) ?tr42
        case th42 => (intro w hSw; (try dsimp only at hSw); go_simp; all_goals (with_reducible rfl))
        simp only [Act.put, List.getElem_toArray, List.getElem_cons_zero, List.getElem_cons_succ, List.setIfInBounds_toArray, List.set_cons_zero, List.set_cons_succ]
        refine wpAnyH_take (i := 5) (v := ?tv43) rfl (by kernel_rfl) (by kernel_rfl) (by kernel_rfl) (fun _ _ _ h => h) (Or.inl ⟨by rfl, ?th43⟩) (by assumption) ?tr43
        case th43 => (intro w hSw; (try dsimp only at hSw); go_simp; all_goals (with_reducible rfl))
        simp only [Act.put, List.getElem_toArray, List.getElem_cons_zero, List.getElem_cons_succ, List.setIfInBounds_toArray, List.set_cons_zero, List.set_cons_succ]
        refine wpAnyH_take (i := 6) (v := ?tv44) rfl (by kernel_rfl) (by kernel_rfl) (by kernel_rfl) (fun _ _ _ h => h) (Or.inl ⟨by rfl, ?th44⟩) (by assumption) ?tr44
        case th44 => (intro w hSw; (try dsimp only at hSw); go_simp; all_goals (with_reducible rfl))
        simp only [Act.put, List.getElem_toArray, List.getElem_cons_zero, List.getElem_cons_succ, List.setIfInBounds_toArray, List.set_cons_zero, List.set_cons_succ]
        refine wpAnyH_take (i := 8) (v := ?tv45) rfl (by kernel_rfl) (by kernel_rfl) (by kernel_rfl) (fun _ _ _ h => h) (Or.inl ⟨by rfl, ?th45⟩) (by assumption) ?tr45
        case th45 => (intro w hSw; (try dsimp only at hSw); go_simp; all_goals (with_reducible rfl))
        simp only [Act.put, List.getElem_toArray, List.getElem_cons_zero, List.getElem_cons_succ, List.setIfInBounds_toArray, List.set_cons_zero, List.set_cons_succ]
        refine wpAnyH_take (i := 9) (v := ?tv46) rfl (by kernel_rfl) (by kernel_rfl) (by kernel_rfl) (fun _ _ _ h => h) (Or.inl ⟨by rfl, ?th46⟩) (by assumption) ?tr46
        case th46 => (intro w hSw; (try dsimp only at hSw); go_simp; all_goals (with_reducible rfl))
        simp only [Act.put, List.getElem_toArray, List.getElem_cons_zero, List.getElem_cons_succ, List.setIfInBounds_toArray, List.set_cons_zero, List.set_cons_succ]
        refine wpAnyH_take (i := 11) (v := ?tv47) rfl (by kernel_rfl) (by kernel_rfl) (by kernel_rfl) (fun _ _ _ h => h) (Or.inl ⟨by rfl, ?th47⟩) (by assumption) ?tr47
        case th47 => (intro w hSw; (try dsimp only at hSw); go_simp; all_goals (with_reducible rfl))
        simp only [Act.put, List.getElem_toArray, List.getElem_cons_zero, List.getElem_cons_succ, List.setIfInBounds_toArray, List.set_cons_zero, List.set_cons_succ]
        refine wpAnyH_ready (rs := [4, 7, 12]) (by kernel_rfl) (by simp) ?_
        refine AllReadyH.cons rfl (fun K hK => ?_) (AllReadyH.cons rfl (fun K hK => ?_) (AllReadyH.cons rfl (fun K hK => ?_) AllReadyH.nil))
        · skip
          obtain ⟨f0, f1, f2, f3, f4⟩ := SW.out wc.drew (Below.refl _ wc).drew
          go_simp
          refine hK.out _ _ ⟨f0, f1, f3, f4⟩ (fun hHeld => ?_)
          clear hK K f0 f1 f2 f3 f4
          try simp only [Act.put, List.getElem_toArray, List.getElem_cons_zero, List.getElem_cons_succ, List.setIfInBounds_toArray, List.set_cons_zero, List.set_cons_succ]
          refine wpAnyH_ready (rs := [7, 12]) (by kernel_rfl) (by simp) ?_
          refine AllReadyH.cons rfl (fun K hK => ?_) (AllReadyH.cons rfl (fun K hK => ?_) AllReadyH.nil)
          · skip
            obtain ⟨f0, f1, f2, f3, f4⟩ := SW.out wc.drew (Below.refl _ wc).drew
            go_simp
            refine hK.out _ _ ⟨f0, f1, f3, f4⟩ (fun hHeld => ?_)
            clear hK K f0 f1 f2 f3 f4
            try simp only [Act.put, List.getElem_toArray, List.getElem_cons_zero, List.getElem_cons_succ, List.setIfInBounds_toArray, List.set_cons_zero, List.set_cons_succ]
            refine wpAnyH_ready (rs := [10, 12]) (by kernel_rfl) (by simp) ?_
            refine AllReadyH.cons rfl (fun K hK => ?_) (AllReadyH.cons rfl (fun K hK => ?_) AllReadyH.nil)
            · skip
              go_simp
              refine (KF.out wc.drew (below_tr BW.out (Below.refl _ wc).drew)).mono ?_
              rintro r u3 ⟨rfl, h3⟩
              have b3 := below_tr (Below.refl _ wc).drew h3
              obtain ⟨f0, f1, f2, f3, f4⟩ := SW.out u3 b3
              clear h3
              refine hK.out _ _ ⟨f0, f1, f3, f4⟩ (fun hHeld => ?_)
              clear hK K f0 f1 f2 f3 f4
              try simp only [Act.put, List.getElem_toArray, List.getElem_cons_zero, List.getElem_cons_succ, List.setIfInBounds_toArray, List.set_cons_zero, List.set_cons_succ]
              refine wpAnyH_ready (rs := [12]) (by kernel_rfl) (by simp) ?_
              refine AllReadyH.cons rfl (fun K hK => ?_) AllReadyH.nil
              obtain ⟨u4, z4⟩ : ∃ u, u = u3.alloc (.cells #[.int .i64 t, .int .i64 m] 62) := ⟨_, rfl⟩
              have b4 : Below wc.heap.size wc u4 := by rw [z4]; exact below_tr b3 (bx _ _)
              have e4 : OneAt u4 u3.heap.size ⟨t, m⟩ := by rw [z4]; exact heap_alloc_new u3 _
              obtain ⟨f0, f1, f2, f3, f4⟩ := SW.out u4 b4
              have q4 := hid z4
              clear z4
              go_simp
              rw [← q4.out]
              refine hK.out _ _ ⟨f0, f1, f3, f4⟩ (fun hHeld => ?_)
              clear hK K f0 f1 f2 f3 f4
              try simp only [Act.put, List.getElem_toArray, List.getElem_cons_zero, List.getElem_cons_succ, List.setIfInBounds_toArray, List.set_cons_zero, List.set_cons_succ]
              refine wpAnyH_ready (rs := [13]) (by kernel_rfl) (by simp) ?_
              refine AllReadyH.cons rfl (fun K hK => ?_) AllReadyH.nil
              go_simp
              refine (KI.out u4 u3.heap.size b4 e4 b3.size).mono ?_
              rintro r w4 ⟨v5, rfl, o4, g4⟩
              have S4 := hid ((S.out.below (below_tr BW.out b4)).goes g4 hnq.out)
              have O4 : Hid (OwnLk w4 base v5 X2) := by { show OwnLk _ _ _ _; rw [HX2.out]; exact o4 }
              have G4 : Hid (Goes (ownB (.slice aq Q.length cq)) w w4 (fun _ => False)) := goes_two (below_tr BW.out b4) g4
              have L4 := lock_goes b4 (by have := BW.out.size; have := HB.out; have := hbw.out; omega) (SW.out u4 b4).2.2.2 g4 hnb.out
              obtain ⟨r0, r1, r2, r3, r4⟩ := S4.out.cells
              obtain ⟨a4, c4, rfl, _⟩ := O4.out.at_
              obtain ⟨l0, l1⟩ := L4
              clear o4 g4
              refine hK.out _ _ ⟨r0, r1, l0, l1⟩ (fun hHeld => ?_)
              clear hK K
              try simp only [Act.put, List.getElem_toArray, List.getElem_cons_zero, List.getElem_cons_succ, List.setIfInBounds_toArray, List.set_cons_zero, List.set_cons_succ]
              refine wpAnyH_take (i := 14) (v := ?tv48) rfl (by kernel_rfl) (by kernel_rfl) (by kernel_rfl) (fun _ _ _ h => h) (Or.inl ⟨by rfl, ?th48⟩) (by assumption) ?tr48
              case th48 => (intro w hSw; (try dsimp only at hSw); go_simp; all_goals (with_reducible rfl))
              simp only [Act.put, List.getElem_toArray, List.getElem_cons_zero, List.getElem_cons_succ, List.setIfInBounds_toArray, List.set_cons_zero, List.set_cons_succ]
              refine wpAnyH_take (i := 15) (v := ?tv49) rfl (by kernel_rfl) (by kernel_rfl) (by kernel_rfl) (fun _ _ _ h => h) (Or.inl ⟨by rfl, ?th49⟩) (by assumption) ?tr49
              case th49 => (intro w hSw; (try dsimp only at hSw); go_simp; all_goals (with_reducible rfl))
              simp only [Act.put, List.getElem_toArray, List.getElem_cons_zero, List.getElem_cons_succ, List.setIfInBounds_toArray, List.set_cons_zero, List.set_cons_succ]
              refine wpAnyH_ready (rs := [16]) (by kernel_rfl) (by simp) ?_
              refine AllReadyH.cons rfl (fun K hK => ?_) AllReadyH.nil
              go_simp
              refine hK.out _ _ (held_set hpB.out ⟨r0, r1, l0, l1⟩) (fun hHeld => ?_)
              clear hK K
              try simp only [Act.put, List.getElem_toArray, List.getElem_cons_zero, List.getElem_cons_succ, List.setIfInBounds_toArray, List.set_cons_zero, List.set_cons_succ]
              refine wpAnyH_done (by kernel_rfl) ?_ _
              go_wp2_with fail
              go_meet
              exact ⟨_, w4, rfl, S4.out, O4.out, G4.out⟩
            · skip
              obtain ⟨u5, z5⟩ : ∃ u, u = (wc.alloc (.cells #[.int .i64 t, .int .i64 m] 62)).drew := ⟨_, rfl⟩
              have b5 : Below wc.heap.size wc u5 := by rw [z5]; exact (below_tr (bx _ _) (Below.refl _ _).drew)
              have e5 : OneAt u5 wc.heap.size ⟨t, m⟩ := by rw [z5]; exact heap_alloc_new wc _
              obtain ⟨f0, f1, f2, f3, f4⟩ := SW.out u5 b5
              have q5 := hid z5
              clear z5
              go_simp
              rw [← q5.out]
              refine hK.out _ _ ⟨f0, f1, f3, f4⟩ (fun hHeld => ?_)
              clear hK K f0 f1 f2 f3 f4
              try simp only [Act.put, List.getElem_toArray, List.getElem_cons_zero, List.getElem_cons_succ, List.setIfInBounds_toArray, List.set_cons_zero, List.set_cons_succ]
              refine wpAnyH_ready (rs := [10]) (by kernel_rfl) (by simp) ?_
              refine AllReadyH.cons rfl (fun K hK => ?_) AllReadyH.nil
              go_simp
              refine (KF.out u5 (below_tr BW.out b5)).mono ?_
              rintro r u6 ⟨rfl, h6⟩
              have b6 := below_tr b5 h6
              have e6 := one_below e5 h6
              obtain ⟨f0, f1, f2, f3, f4⟩ := SW.out u6 b6
              clear h6
              refine hK.out _ _ ⟨f0, f1, f3, f4⟩ (fun hHeld => ?_)
              clear hK K f0 f1 f2 f3 f4
              try simp only [Act.put, List.getElem_toArray, List.getElem_cons_zero, List.getElem_cons_succ, List.setIfInBounds_toArray, List.set_cons_zero, List.set_cons_succ]
              refine wpAnyH_ready (rs := [13]) (by kernel_rfl) (by simp) ?_
              refine AllReadyH.cons rfl (fun K hK => ?_) AllReadyH.nil
              go_simp
              refine (KI.out u6 wc.heap.size b6 e6 (Nat.le_refl _)).mono ?_
              rintro r w4 ⟨v5, rfl, o4, g4⟩
              have S4 := hid ((S.out.below (below_tr BW.out b6)).goes g4 hnq.out)
              have O4 : Hid (OwnLk w4 base v5 X2) := by { show OwnLk _ _ _ _; rw [HX2.out]; exact o4 }
              have G4 : Hid (Goes (ownB (.slice aq Q.length cq)) w w4 (fun _ => False)) := goes_two (below_tr BW.out b6) g4
              have L4 := lock_goes b6 (by have := BW.out.size; have := HB.out; have := hbw.out; omega) (SW.out u6 b6).2.2.2 g4 hnb.out
              obtain ⟨r0, r1, r2, r3, r4⟩ := S4.out.cells
              obtain ⟨a4, c4, rfl, _⟩ := O4.out.at_
              obtain ⟨l0, l1⟩ := L4
              clear o4 g4
              refine hK.out _ _ ⟨r0, r1, l0, l1⟩ (fun hHeld => ?_)
              clear hK K
              try simp only [Act.put, List.getElem_toArray, List.getElem_cons_zero, List.getElem_cons_succ, List.setIfInBounds_toArray, List.set_cons_zero, List.set_cons_succ]
              refine wpAnyH_take (i := 14) (v := ?tv50) rfl (by kernel_rfl) (by kernel_rfl) (by kernel_rfl) (fun _ _ _ h => h) (Or.inl ⟨by rfl, ?th50⟩) (by assumption) ?tr50
              case th50 => (intro w hSw; (try dsimp only at hSw); go_simp; all_goals (with_reducible rfl))
              simp only [Act.put, List.getElem_toArray, List.getElem_cons_zero, List.getElem_cons_succ, List.setIfInBounds_toArray, List.set_cons_zero, List.set_cons_succ]
              refine wpAnyH_take (i := 15) (v := ?tv51) rfl (by kernel_rfl) (by kernel_rfl) (by kernel_rfl) (fun _ _ _ h => h) (Or.inl ⟨by rfl, ?th51⟩) (by assumption) ?tr51
              case th51 => (intro w hSw; (try dsimp only at hSw); go_simp; all_goals (with_reducible rfl))
              simp only [Act.put, List.getElem_toArray, List.getElem_cons_zero, List.getElem_cons_succ, List.setIfInBounds_toArray, List.set_cons_zero, List.set_cons_succ]
              refine wpAnyH_ready (rs := [16]) (by kernel_rfl) (by simp) ?_
              refine AllReadyH.cons rfl (fun K hK => ?_) AllReadyH.nil
              go_simp
              refine hK.out _ _ (held_set hpB.out ⟨r0, r1, l0, l1⟩) (fun hHeld => ?_)
              clear hK K
              try simp only [Act.put, List.getElem_toArray, List.getElem_cons_zero, List.getElem_cons_succ, List.setIfInBounds_toArray, List.set_cons_zero, List.set_cons_succ]
              refine wpAnyH_done (by kernel_rfl) ?_ _
              go_wp2_with fail
              go_meet
              exact ⟨_, w4, rfl, S4.out, O4.out, G4.out⟩
          · skip
            obtain ⟨u7, z7⟩ : ∃ u, u = (wc.alloc (.cells #[.int .i64 t, .int .i64 m] 62)).drew := ⟨_, rfl⟩
            have b7 : Below wc.heap.size wc u7 := by rw [z7]; exact (below_tr (bx _ _) (Below.refl _ _).drew)
            have e7 : OneAt u7 wc.heap.size ⟨t, m⟩ := by rw [z7]; exact heap_alloc_new wc _
            obtain ⟨f0, f1, f2, f3, f4⟩ := SW.out u7 b7
            have q7 := hid z7
            clear z7
            go_simp
            rw [← q7.out]
            refine hK.out _ _ ⟨f0, f1, f3, f4⟩ (fun hHeld => ?_)
            clear hK K f0 f1 f2 f3 f4
            try simp only [Act.put, List.getElem_toArray, List.getElem_cons_zero, List.getElem_cons_succ, List.setIfInBounds_toArray, List.set_cons_zero, List.set_cons_succ]
            refine wpAnyH_ready (rs := [7]) (by kernel_rfl) (by simp) ?_
            refine AllReadyH.cons rfl (fun K hK => ?_) AllReadyH.nil
            obtain ⟨f0, f1, f2, f3, f4⟩ := SW.out u7 b7
            go_simp
            refine hK.out _ _ ⟨f0, f1, f3, f4⟩ (fun hHeld => ?_)
            clear hK K f0 f1 f2 f3 f4
            try simp only [Act.put, List.getElem_toArray, List.getElem_cons_zero, List.getElem_cons_succ, List.setIfInBounds_toArray, List.set_cons_zero, List.set_cons_succ]
            refine wpAnyH_ready (rs := [10]) (by kernel_rfl) (by simp) ?_
            refine AllReadyH.cons rfl (fun K hK => ?_) AllReadyH.nil
            go_simp
            refine (KF.out u7 (below_tr BW.out b7)).mono ?_
            rintro r u9 ⟨rfl, h9⟩
            have b9 := below_tr b7 h9
            have e9 := one_below e7 h9
            obtain ⟨f0, f1, f2, f3, f4⟩ := SW.out u9 b9
            clear h9
            refine hK.out _ _ ⟨f0, f1, f3, f4⟩ (fun hHeld => ?_)
            clear hK K f0 f1 f2 f3 f4
            try simp only [Act.put, List.getElem_toArray, List.getElem_cons_zero, List.getElem_cons_succ, List.setIfInBounds_toArray, List.set_cons_zero, List.set_cons_succ]
            refine wpAnyH_ready (rs := [13]) (by kernel_rfl) (by simp) ?_
            refine AllReadyH.cons rfl (fun K hK => ?_) AllReadyH.nil
            go_simp
            refine (KI.out u9 wc.heap.size b9 e9 (Nat.le_refl _)).mono ?_
            rintro r w4 ⟨v5, rfl, o4, g4⟩
            have S4 := hid ((S.out.below (below_tr BW.out b9)).goes g4 hnq.out)
            have O4 : Hid (OwnLk w4 base v5 X2) := by { show OwnLk _ _ _ _; rw [HX2.out]; exact o4 }
            have G4 : Hid (Goes (ownB (.slice aq Q.length cq)) w w4 (fun _ => False)) := goes_two (below_tr BW.out b9) g4
            have L4 := lock_goes b9 (by have := BW.out.size; have := HB.out; have := hbw.out; omega) (SW.out u9 b9).2.2.2 g4 hnb.out
            obtain ⟨r0, r1, r2, r3, r4⟩ := S4.out.cells
            obtain ⟨a4, c4, rfl, _⟩ := O4.out.at_
            obtain ⟨l0, l1⟩ := L4
            clear o4 g4
            refine hK.out _ _ ⟨r0, r1, l0, l1⟩ (fun hHeld => ?_)
            clear hK K
            try simp only [Act.put, List.getElem_toArray, List.getElem_cons_zero, List.getElem_cons_succ, List.setIfInBounds_toArray, List.set_cons_zero, List.set_cons_succ]
            refine wpAnyH_take (i := 14) (v := ?tv52) rfl (by kernel_rfl) (by kernel_rfl) (by kernel_rfl) (fun _ _ _ h => h) (Or.inl ⟨by rfl, ?th52⟩) (by assumption) ?tr52
            case th52 => (intro w hSw; (try dsimp only at hSw); go_simp; all_goals (with_reducible rfl))
            simp only [Act.put, List.getElem_toArray, List.getElem_cons_zero, List.getElem_cons_succ, List.setIfInBounds_toArray, List.set_cons_zero, List.set_cons_succ]
            refine wpAnyH_take (i := 15) (v := ?tv53) rfl (by kernel_rfl) (by kernel_rfl) (by kernel_rfl) (fun _ _ _ h => h) (Or.inl ⟨by rfl, ?th53⟩) (by assumption) ?tr53
            case th53 => (intro w hSw; (try dsimp only at hSw); go_simp; all_goals (with_reducible rfl))
            simp only [Act.put, List.getElem_toArray, List.getElem_cons_zero, List.getElem_cons_succ, List.setIfInBounds_toArray, List.set_cons_zero, List.set_cons_succ]
            refine wpAnyH_ready (rs := [16]) (by kernel_rfl) (by simp) ?_
            refine AllReadyH.cons rfl (fun K hK => ?_) AllReadyH.nil
            go_simp
            refine hK.out _ _ (held_set hpB.out ⟨r0, r1, l0, l1⟩) (fun hHeld => ?_)
            clear hK K
            try simp only [Act.put, List.getElem_toArray, List.getElem_cons_zero, List.getElem_cons_succ, List.setIfInBounds_toArray, List.set_cons_zero, List.set_cons_succ]
            refine wpAnyH_done (by kernel_rfl) ?_ _
            go_wp2_with fail
            go_meet
            exact ⟨_, w4, rfl, S4.out, O4.out, G4.out⟩
        · skip
          obtain ⟨f0, f1, f2, f3, f4⟩ := SW.out wc.drew (Below.refl _ wc).drew
          go_simp
          refine hK.out _ _ ⟨f0, f1, f3, f4⟩ (fun hHeld => ?_)
          clear hK K f0 f1 f2 f3 f4
          try simp only [Act.put, List.getElem_toArray, List.getElem_cons_zero, List.getElem_cons_succ, List.setIfInBounds_toArray, List.set_cons_zero, List.set_cons_succ]
          refine wpAnyH_ready (rs := [4, 10, 12]) (by kernel_rfl) (by simp) ?_
          refine AllReadyH.cons rfl (fun K hK => ?_) (AllReadyH.cons rfl (fun K hK => ?_) (AllReadyH.cons rfl (fun K hK => ?_) AllReadyH.nil))
          · skip
            obtain ⟨f0, f1, f2, f3, f4⟩ := SW.out wc.drew (Below.refl _ wc).drew
            go_simp
            refine hK.out _ _ ⟨f0, f1, f3, f4⟩ (fun hHeld => ?_)
            clear hK K f0 f1 f2 f3 f4
            try simp only [Act.put, List.getElem_toArray, List.getElem_cons_zero, List.getElem_cons_succ, List.setIfInBounds_toArray, List.set_cons_zero, List.set_cons_succ]
            refine wpAnyH_ready (rs := [10, 12]) (by kernel_rfl) (by simp) ?_
            refine AllReadyH.cons rfl (fun K hK => ?_) (AllReadyH.cons rfl (fun K hK => ?_) AllReadyH.nil)
            · skip
              go_simp
              refine (KF.out wc.drew (below_tr BW.out (Below.refl _ wc).drew)).mono ?_
              rintro r u12 ⟨rfl, h12⟩
              have b12 := below_tr (Below.refl _ wc).drew h12
              obtain ⟨f0, f1, f2, f3, f4⟩ := SW.out u12 b12
              clear h12
              refine hK.out _ _ ⟨f0, f1, f3, f4⟩ (fun hHeld => ?_)
              clear hK K f0 f1 f2 f3 f4
              try simp only [Act.put, List.getElem_toArray, List.getElem_cons_zero, List.getElem_cons_succ, List.setIfInBounds_toArray, List.set_cons_zero, List.set_cons_succ]
              refine wpAnyH_ready (rs := [12]) (by kernel_rfl) (by simp) ?_
              refine AllReadyH.cons rfl (fun K hK => ?_) AllReadyH.nil
              obtain ⟨u13, z13⟩ : ∃ u, u = u12.alloc (.cells #[.int .i64 t, .int .i64 m] 62) := ⟨_, rfl⟩
              have b13 : Below wc.heap.size wc u13 := by rw [z13]; exact below_tr b12 (bx _ _)
              have e13 : OneAt u13 u12.heap.size ⟨t, m⟩ := by rw [z13]; exact heap_alloc_new u12 _
              obtain ⟨f0, f1, f2, f3, f4⟩ := SW.out u13 b13
              have q13 := hid z13
              clear z13
              go_simp
              rw [← q13.out]
              refine hK.out _ _ ⟨f0, f1, f3, f4⟩ (fun hHeld => ?_)
              clear hK K f0 f1 f2 f3 f4
              try simp only [Act.put, List.getElem_toArray, List.getElem_cons_zero, List.getElem_cons_succ, List.setIfInBounds_toArray, List.set_cons_zero, List.set_cons_succ]
              refine wpAnyH_ready (rs := [13]) (by kernel_rfl) (by simp) ?_
              refine AllReadyH.cons rfl (fun K hK => ?_) AllReadyH.nil
              go_simp
              refine (KI.out u13 u12.heap.size b13 e13 b12.size).mono ?_
              rintro r w4 ⟨v5, rfl, o4, g4⟩
              have S4 := hid ((S.out.below (below_tr BW.out b13)).goes g4 hnq.out)
              have O4 : Hid (OwnLk w4 base v5 X2) := by { show OwnLk _ _ _ _; rw [HX2.out]; exact o4 }
              have G4 : Hid (Goes (ownB (.slice aq Q.length cq)) w w4 (fun _ => False)) := goes_two (below_tr BW.out b13) g4
              have L4 := lock_goes b13 (by have := BW.out.size; have := HB.out; have := hbw.out; omega) (SW.out u13 b13).2.2.2 g4 hnb.out
              obtain ⟨r0, r1, r2, r3, r4⟩ := S4.out.cells
              obtain ⟨a4, c4, rfl, _⟩ := O4.out.at_
              obtain ⟨l0, l1⟩ := L4
              clear o4 g4
              refine hK.out _ _ ⟨r0, r1, l0, l1⟩ (fun hHeld => ?_)
              clear hK K
              try simp only [Act.put, List.getElem_toArray, List.getElem_cons_zero, List.getElem_cons_succ, List.setIfInBounds_toArray, List.set_cons_zero, List.set_cons_succ]
              refine wpAnyH_take (i := 14) (v := ?tv54) rfl (by kernel_rfl) (by kernel_rfl) (by kernel_rfl) (fun _ _ _ h => h) (Or.inl ⟨by rfl, ?th54⟩) (by assumption) ?tr54
              case th54 => (intro w hSw; (try dsimp only at hSw); go_simp; all_goals (with_reducible rfl))
              simp only [Act.put, List.getElem_toArray, List.getElem_cons_zero, List.getElem_cons_succ, List.setIfInBounds_toArray, List.set_cons_zero, List.set_cons_succ]
              refine wpAnyH_take (i := 15) (v := ?tv55) rfl (by kernel_rfl) (by kernel_rfl) (by kernel_rfl) (fun _ _ _ h => h) (Or.inl ⟨by rfl, ?th55⟩) (by assumption) ?tr55
              case th55 => (intro w hSw; (try dsimp only at hSw); go_simp; all_goals (with_reducible rfl))
              simp only [Act.put, List.getElem_toArray, List.getElem_cons_zero, List.getElem_cons_succ, List.setIfInBounds_toArray, List.set_cons_zero, List.set_cons_succ]
              refine wpAnyH_ready (rs := [16]) (by kernel_rfl) (by simp) ?_
              refine AllReadyH.cons rfl (fun K hK => ?_) AllReadyH.nil
              go_simp
              refine hK.out _ _ (held_set hpB.out ⟨r0, r1, l0, l1⟩) (fun hHeld => ?_)
              clear hK K
              try simp only [Act.put, List.getElem_toArray, List.getElem_cons_zero, List.getElem_cons_succ, List.setIfInBounds_toArray, List.set_cons_zero, List.set_cons_succ]
              refine wpAnyH_done (by kernel_rfl) ?_ _
              go_wp2_with fail
              go_meet
              exact ⟨_, w4, rfl, S4.out, O4.out, G4.out⟩
            · skip
              obtain ⟨u14, z14⟩ : ∃ u, u = (wc.alloc (.cells #[.int .i64 t, .int .i64 m] 62)).drew := ⟨_, rfl⟩
              have b14 : Below wc.heap.size wc u14 := by rw [z14]; exact (below_tr (bx _ _) (Below.refl _ _).drew)
              have e14 : OneAt u14 wc.heap.size ⟨t, m⟩ := by rw [z14]; exact heap_alloc_new wc _
              obtain ⟨f0, f1, f2, f3, f4⟩ := SW.out u14 b14
              have q14 := hid z14
              clear z14
              go_simp
              rw [← q14.out]
              refine hK.out _ _ ⟨f0, f1, f3, f4⟩ (fun hHeld => ?_)
              clear hK K f0 f1 f2 f3 f4
              try simp only [Act.put, List.getElem_toArray, List.getElem_cons_zero, List.getElem_cons_succ, List.setIfInBounds_toArray, List.set_cons_zero, List.set_cons_succ]
              refine wpAnyH_ready (rs := [10]) (by kernel_rfl) (by simp) ?_
              refine AllReadyH.cons rfl (fun K hK => ?_) AllReadyH.nil
              go_simp
              refine (KF.out u14 (below_tr BW.out b14)).mono ?_
              rintro r u15 ⟨rfl, h15⟩
              have b15 := below_tr b14 h15
              have e15 := one_below e14 h15
              obtain ⟨f0, f1, f2, f3, f4⟩ := SW.out u15 b15
              clear h15
              refine hK.out _ _ ⟨f0, f1, f3, f4⟩ (fun hHeld => ?_)
              clear hK K f0 f1 f2 f3 f4
              try simp only [Act.put, List.getElem_toArray, List.getElem_cons_zero, List.getElem_cons_succ, List.setIfInBounds_toArray, List.set_cons_zero, List.set_cons_succ]
              refine wpAnyH_ready (rs := [13]) (by kernel_rfl) (by simp) ?_
              refine AllReadyH.cons rfl (fun K hK => ?_) AllReadyH.nil
              go_simp
              refine (KI.out u15 wc.heap.size b15 e15 (Nat.le_refl _)).mono ?_
              rintro r w4 ⟨v5, rfl, o4, g4⟩
              have S4 := hid ((S.out.below (below_tr BW.out b15)).goes g4 hnq.out)
              have O4 : Hid (OwnLk w4 base v5 X2) := by { show OwnLk _ _ _ _; rw [HX2.out]; exact o4 }
              have G4 : Hid (Goes (ownB (.slice aq Q.length cq)) w w4 (fun _ => False)) := goes_two (below_tr BW.out b15) g4
              have L4 := lock_goes b15 (by have := BW.out.size; have := HB.out; have := hbw.out; omega) (SW.out u15 b15).2.2.2 g4 hnb.out
              obtain ⟨r0, r1, r2, r3, r4⟩ := S4.out.cells
              obtain ⟨a4, c4, rfl, _⟩ := O4.out.at_
              obtain ⟨l0, l1⟩ := L4
              clear o4 g4
              refine hK.out _ _ ⟨r0, r1, l0, l1⟩ (fun hHeld => ?_)
              clear hK K
              try simp only [Act.put, List.getElem_toArray, List.getElem_cons_zero, List.getElem_cons_succ, List.setIfInBounds_toArray, List.set_cons_zero, List.set_cons_succ]
              refine wpAnyH_take (i := 14) (v := ?tv56) rfl (by kernel_rfl) (by kernel_rfl) (by kernel_rfl) (fun _ _ _ h => h) (Or.inl ⟨by rfl, ?th56⟩) (by assumption) ?tr56
              case th56 => (intro w hSw; (try dsimp only at hSw); go_simp; all_goals (with_reducible rfl))
              simp only [Act.put, List.getElem_toArray, List.getElem_cons_zero, List.getElem_cons_succ, List.setIfInBounds_toArray, List.set_cons_zero, List.set_cons_succ]
              refine wpAnyH_take (i := 15) (v := ?tv57) rfl (by kernel_rfl) (by kernel_rfl) (by kernel_rfl) (fun _ _ _ h => h) (Or.inl ⟨by rfl, ?th57⟩) (by assumption) ?tr57
              case th57 => (intro w hSw; (try dsimp only at hSw); go_simp; all_goals (with_reducible rfl))
              simp only [Act.put, List.getElem_toArray, List.getElem_cons_zero, List.getElem_cons_succ, List.setIfInBounds_toArray, List.set_cons_zero, List.set_cons_succ]
              refine wpAnyH_ready (rs := [16]) (by kernel_rfl) (by simp) ?_
              refine AllReadyH.cons rfl (fun K hK => ?_) AllReadyH.nil
              go_simp
              refine hK.out _ _ (held_set hpB.out ⟨r0, r1, l0, l1⟩) (fun hHeld => ?_)
              clear hK K
              try simp only [Act.put, List.getElem_toArray, List.getElem_cons_zero, List.getElem_cons_succ, List.setIfInBounds_toArray, List.set_cons_zero, List.set_cons_succ]
              refine wpAnyH_done (by kernel_rfl) ?_ _
              go_wp2_with fail
              go_meet
              exact ⟨_, w4, rfl, S4.out, O4.out, G4.out⟩
          · skip
            go_simp
            refine (KF.out wc.drew (below_tr BW.out (Below.refl _ wc).drew)).mono ?_
            rintro r u16 ⟨rfl, h16⟩
            have b16 := below_tr (Below.refl _ wc).drew h16
            obtain ⟨f0, f1, f2, f3, f4⟩ := SW.out u16 b16
            clear h16
            refine hK.out _ _ ⟨f0, f1, f3, f4⟩ (fun hHeld => ?_)
            clear hK K f0 f1 f2 f3 f4
            try simp only [Act.put, List.getElem_toArray, List.getElem_cons_zero, List.getElem_cons_succ, List.setIfInBounds_toArray, List.set_cons_zero, List.set_cons_succ]
            refine wpAnyH_ready (rs := [4, 12]) (by kernel_rfl) (by simp) ?_
            refine AllReadyH.cons rfl (fun K hK => ?_) (AllReadyH.cons rfl (fun K hK => ?_) AllReadyH.nil)
            · skip
              obtain ⟨f0, f1, f2, f3, f4⟩ := SW.out u16 b16
              go_simp
              refine hK.out _ _ ⟨f0, f1, f3, f4⟩ (fun hHeld => ?_)
              clear hK K f0 f1 f2 f3 f4
              try simp only [Act.put, List.getElem_toArray, List.getElem_cons_zero, List.getElem_cons_succ, List.setIfInBounds_toArray, List.set_cons_zero, List.set_cons_succ]
              refine wpAnyH_ready (rs := [12]) (by kernel_rfl) (by simp) ?_
              refine AllReadyH.cons rfl (fun K hK => ?_) AllReadyH.nil
              obtain ⟨u18, z18⟩ : ∃ u, u = u16.alloc (.cells #[.int .i64 t, .int .i64 m] 62) := ⟨_, rfl⟩
              have b18 : Below wc.heap.size wc u18 := by rw [z18]; exact below_tr b16 (bx _ _)
              have e18 : OneAt u18 u16.heap.size ⟨t, m⟩ := by rw [z18]; exact heap_alloc_new u16 _
              obtain ⟨f0, f1, f2, f3, f4⟩ := SW.out u18 b18
              have q18 := hid z18
              clear z18
              go_simp
              rw [← q18.out]
              refine hK.out _ _ ⟨f0, f1, f3, f4⟩ (fun hHeld => ?_)
              clear hK K f0 f1 f2 f3 f4
              try simp only [Act.put, List.getElem_toArray, List.getElem_cons_zero, List.getElem_cons_succ, List.setIfInBounds_toArray, List.set_cons_zero, List.set_cons_succ]
              refine wpAnyH_ready (rs := [13]) (by kernel_rfl) (by simp) ?_
              refine AllReadyH.cons rfl (fun K hK => ?_) AllReadyH.nil
              go_simp
              refine (KI.out u18 u16.heap.size b18 e18 b16.size).mono ?_
              rintro r w4 ⟨v5, rfl, o4, g4⟩
              have S4 := hid ((S.out.below (below_tr BW.out b18)).goes g4 hnq.out)
              have O4 : Hid (OwnLk w4 base v5 X2) := by { show OwnLk _ _ _ _; rw [HX2.out]; exact o4 }
              have G4 : Hid (Goes (ownB (.slice aq Q.length cq)) w w4 (fun _ => False)) := goes_two (below_tr BW.out b18) g4
              have L4 := lock_goes b18 (by have := BW.out.size; have := HB.out; have := hbw.out; omega) (SW.out u18 b18).2.2.2 g4 hnb.out
              obtain ⟨r0, r1, r2, r3, r4⟩ := S4.out.cells
              obtain ⟨a4, c4, rfl, _⟩ := O4.out.at_
              obtain ⟨l0, l1⟩ := L4
              clear o4 g4
              refine hK.out _ _ ⟨r0, r1, l0, l1⟩ (fun hHeld => ?_)
              clear hK K
              try simp only [Act.put, List.getElem_toArray, List.getElem_cons_zero, List.getElem_cons_succ, List.setIfInBounds_toArray, List.set_cons_zero, List.set_cons_succ]
              refine wpAnyH_take (i := 14) (v := ?tv58) rfl (by kernel_rfl) (by kernel_rfl) (by kernel_rfl) (fun _ _ _ h => h) (Or.inl ⟨by rfl, ?th58⟩) (by assumption) ?tr58
              case th58 => (intro w hSw; (try dsimp only at hSw); go_simp; all_goals (with_reducible rfl))
              simp only [Act.put, List.getElem_toArray, List.getElem_cons_zero, List.getElem_cons_succ, List.setIfInBounds_toArray, List.set_cons_zero, List.set_cons_succ]
              refine wpAnyH_take (i := 15) (v := ?tv59) rfl (by kernel_rfl) (by kernel_rfl) (by kernel_rfl) (fun _ _ _ h => h) (Or.inl ⟨by rfl, ?th59⟩) (by assumption) ?tr59
              case th59 => (intro w hSw; (try dsimp only at hSw); go_simp; all_goals (with_reducible rfl))
              simp only [Act.put, List.getElem_toArray, List.getElem_cons_zero, List.getElem_cons_succ, List.setIfInBounds_toArray, List.set_cons_zero, List.set_cons_succ]
              refine wpAnyH_ready (rs := [16]) (by kernel_rfl) (by simp) ?_
              refine AllReadyH.cons rfl (fun K hK => ?_) AllReadyH.nil
              go_simp
              refine hK.out _ _ (held_set hpB.out ⟨r0, r1, l0, l1⟩) (fun hHeld => ?_)
              clear hK K
              try simp only [Act.put, List.getElem_toArray, List.getElem_cons_zero, List.getElem_cons_succ, List.setIfInBounds_toArray, List.set_cons_zero, List.set_cons_succ]
              refine wpAnyH_done (by kernel_rfl) ?_ _
              go_wp2_with fail
              go_meet
              exact ⟨_, w4, rfl, S4.out, O4.out, G4.out⟩
            · skip
              obtain ⟨u19, z19⟩ : ∃ u, u = u16.alloc (.cells #[.int .i64 t, .int .i64 m] 62) := ⟨_, rfl⟩
              have b19 : Below wc.heap.size wc u19 := by rw [z19]; exact below_tr b16 (bx _ _)
              have e19 : OneAt u19 u16.heap.size ⟨t, m⟩ := by rw [z19]; exact heap_alloc_new u16 _
              obtain ⟨f0, f1, f2, f3, f4⟩ := SW.out u19 b19
              have q19 := hid z19
              clear z19
              go_simp
              rw [← q19.out]
              refine hK.out _ _ ⟨f0, f1, f3, f4⟩ (fun hHeld => ?_)
              clear hK K f0 f1 f2 f3 f4
              try simp only [Act.put, List.getElem_toArray, List.getElem_cons_zero, List.getElem_cons_succ, List.setIfInBounds_toArray, List.set_cons_zero, List.set_cons_succ]
              refine wpAnyH_ready (rs := [4]) (by kernel_rfl) (by simp) ?_
              refine AllReadyH.cons rfl (fun K hK => ?_) AllReadyH.nil
              obtain ⟨f0, f1, f2, f3, f4⟩ := SW.out u19 b19
              go_simp
              refine hK.out _ _ ⟨f0, f1, f3, f4⟩ (fun hHeld => ?_)
              clear hK K f0 f1 f2 f3 f4
              try simp only [Act.put, List.getElem_toArray, List.getElem_cons_zero, List.getElem_cons_succ, List.setIfInBounds_toArray, List.set_cons_zero, List.set_cons_succ]
              refine wpAnyH_ready (rs := [13]) (by kernel_rfl) (by simp) ?_
              refine AllReadyH.cons rfl (fun K hK => ?_) AllReadyH.nil
              go_simp
              refine (KI.out u19 u16.heap.size b19 e19 b16.size).mono ?_
              rintro r w4 ⟨v5, rfl, o4, g4⟩
              have S4 := hid ((S.out.below (below_tr BW.out b19)).goes g4 hnq.out)
              have O4 : Hid (OwnLk w4 base v5 X2) := by { show OwnLk _ _ _ _; rw [HX2.out]; exact o4 }
              have G4 : Hid (Goes (ownB (.slice aq Q.length cq)) w w4 (fun _ => False)) := goes_two (below_tr BW.out b19) g4
              have L4 := lock_goes b19 (by have := BW.out.size; have := HB.out; have := hbw.out; omega) (SW.out u19 b19).2.2.2 g4 hnb.out
              obtain ⟨r0, r1, r2, r3, r4⟩ := S4.out.cells
              obtain ⟨a4, c4, rfl, _⟩ := O4.out.at_
              obtain ⟨l0, l1⟩ := L4
              clear o4 g4
              refine hK.out _ _ ⟨r0, r1, l0, l1⟩ (fun hHeld => ?_)
              clear hK K
              try simp only [Act.put, List.getElem_toArray, List.getElem_cons_zero, List.getElem_cons_succ, List.setIfInBounds_toArray, List.set_cons_zero, List.set_cons_succ]
              refine wpAnyH_take (i := 14) (v := ?tv60) rfl (by kernel_rfl) (by kernel_rfl) (by kernel_rfl) (fun _ _ _ h => h) (Or.inl ⟨by rfl, ?th60⟩) (by assumption) ?tr60
              case th60 => (intro w hSw; (try dsimp only at hSw); go_simp; all_goals (with_reducible rfl))
              simp only [Act.put, List.getElem_toArray, List.getElem_cons_zero, List.getElem_cons_succ, List.setIfInBounds_toArray, List.set_cons_zero, List.set_cons_succ]
              refine wpAnyH_take (i := 15) (v := ?tv61) rfl (by kernel_rfl) (by kernel_rfl) (by kernel_rfl) (fun _ _ _ h => h) (Or.inl ⟨by rfl, ?th61⟩) (by assumption) ?tr61
              case th61 => (intro w hSw; (try dsimp only at hSw); go_simp; all_goals (with_reducible rfl))
              simp only [Act.put, List.getElem_toArray, List.getElem_cons_zero, List.getElem_cons_succ, List.setIfInBounds_toArray, List.set_cons_zero, List.set_cons_succ]
              refine wpAnyH_ready (rs := [16]) (by kernel_rfl) (by simp) ?_
              refine AllReadyH.cons rfl (fun K hK => ?_) AllReadyH.nil
              go_simp
              refine hK.out _ _ (held_set hpB.out ⟨r0, r1, l0, l1⟩) (fun hHeld => ?_)
              clear hK K
              try simp only [Act.put, List.getElem_toArray, List.getElem_cons_zero, List.getElem_cons_succ, List.setIfInBounds_toArray, List.set_cons_zero, List.set_cons_succ]
              refine wpAnyH_done (by kernel_rfl) ?_ _
              go_wp2_with fail
              go_meet
              exact ⟨_, w4, rfl, S4.out, O4.out, G4.out⟩
          · skip
            obtain ⟨u21, z21⟩ : ∃ u, u = (wc.alloc (.cells #[.int .i64 t, .int .i64 m] 62)).drew := ⟨_, rfl⟩
            have b21 : Below wc.heap.size wc u21 := by rw [z21]; exact (below_tr (bx _ _) (Below.refl _ _).drew)
            have e21 : OneAt u21 wc.heap.size ⟨t, m⟩ := by rw [z21]; exact heap_alloc_new wc _
            obtain ⟨f0, f1, f2, f3, f4⟩ := SW.out u21 b21
            have q21 := hid z21
            clear z21
            go_simp
            rw [← q21.out]
            refine hK.out _ _ ⟨f0, f1, f3, f4⟩ (fun hHeld => ?_)
            clear hK K f0 f1 f2 f3 f4
            try simp only [Act.put, List.getElem_toArray, List.getElem_cons_zero, List.getElem_cons_succ, List.setIfInBounds_toArray, List.set_cons_zero, List.set_cons_succ]
            refine wpAnyH_ready (rs := [4, 10]) (by kernel_rfl) (by simp) ?_
            refine AllReadyH.cons rfl (fun K hK => ?_) (AllReadyH.cons rfl (fun K hK => ?_) AllReadyH.nil)
            · skip
              obtain ⟨f0, f1, f2, f3, f4⟩ := SW.out u21 b21
              go_simp
              refine hK.out _ _ ⟨f0, f1, f3, f4⟩ (fun hHeld => ?_)
              clear hK K f0 f1 f2 f3 f4
              try simp only [Act.put, List.getElem_toArray, List.getElem_cons_zero, List.getElem_cons_succ, List.setIfInBounds_toArray, List.set_cons_zero, List.set_cons_succ]
              refine wpAnyH_ready (rs := [10]) (by kernel_rfl) (by simp) ?_
              refine AllReadyH.cons rfl (fun K hK => ?_) AllReadyH.nil
              go_simp
              refine (KF.out u21 (below_tr BW.out b21)).mono ?_
              rintro r u23 ⟨rfl, h23⟩
              have b23 := below_tr b21 h23
              have e23 := one_below e21 h23
              obtain ⟨f0, f1, f2, f3, f4⟩ := SW.out u23 b23
              clear h23
              refine hK.out _ _ ⟨f0, f1, f3, f4⟩ (fun hHeld => ?_)
              clear hK K f0 f1 f2 f3 f4
              try simp only [Act.put, List.getElem_toArray, List.getElem_cons_zero, List.getElem_cons_succ, List.setIfInBounds_toArray, List.set_cons_zero, List.set_cons_succ]
              refine wpAnyH_ready (rs := [13]) (by kernel_rfl) (by simp) ?_
              refine AllReadyH.cons rfl (fun K hK => ?_) AllReadyH.nil
              go_simp
              refine (KI.out u23 wc.heap.size b23 e23 (Nat.le_refl _)).mono ?_
              rintro r w4 ⟨v5, rfl, o4, g4⟩
              have S4 := hid ((S.out.below (below_tr BW.out b23)).goes g4 hnq.out)
              have O4 : Hid (OwnLk w4 base v5 X2) := by { show OwnLk _ _ _ _; rw [HX2.out]; exact o4 }
              have G4 : Hid (Goes (ownB (.slice aq Q.length cq)) w w4 (fun _ => False)) := goes_two (below_tr BW.out b23) g4
              have L4 := lock_goes b23 (by have := BW.out.size; have := HB.out; have := hbw.out; omega) (SW.out u23 b23).2.2.2 g4 hnb.out
              obtain ⟨r0, r1, r2, r3, r4⟩ := S4.out.cells
              obtain ⟨a4, c4, rfl, _⟩ := O4.out.at_
              obtain ⟨l0, l1⟩ := L4
              clear o4 g4
              refine hK.out _ _ ⟨r0, r1, l0, l1⟩ (fun hHeld => ?_)
              clear hK K
              try simp only [Act.put, List.getElem_toArray, List.getElem_cons_zero, List.getElem_cons_succ, List.setIfInBounds_toArray, List.set_cons_zero, List.set_cons_succ]
              refine wpAnyH_take (i := 14) (v := ?tv62) rfl (by kernel_rfl) (by kernel_rfl) (by kernel_rfl) (fun _ _ _ h => h) (Or.inl ⟨by rfl, ?th62⟩) (by assumption) ?tr62
              case th62 => (intro w hSw; (try dsimp only at hSw); go_simp; all_goals (with_reducible rfl))
              simp only [Act.put, List.getElem_toArray, List.getElem_cons_zero, List.getElem_cons_succ, List.setIfInBounds_toArray, List.set_cons_zero, List.set_cons_succ]
              refine wpAnyH_take (i := 15) (v := ?tv63) rfl (by kernel_rfl) (by kernel_rfl) (by kernel_rfl) (fun _ _ _ h => h) (Or.inl ⟨by rfl, ?th63⟩) (by assumption) ?tr63
              case th63 => (intro w hSw; (try dsimp only at hSw); go_simp; all_goals (with_reducible rfl))
              simp only [Act.put, List.getElem_toArray, List.getElem_cons_zero, List.getElem_cons_succ, List.setIfInBounds_toArray, List.set_cons_zero, List.set_cons_succ]
              refine wpAnyH_ready (rs := [16]) (by kernel_rfl) (by simp) ?_
              refine AllReadyH.cons rfl (fun K hK => ?_) AllReadyH.nil
              go_simp
              refine hK.out _ _ (held_set hpB.out ⟨r0, r1, l0, l1⟩) (fun hHeld => ?_)
              clear hK K
              try simp only [Act.put, List.getElem_toArray, List.getElem_cons_zero, List.getElem_cons_succ, List.setIfInBounds_toArray, List.set_cons_zero, List.set_cons_succ]
              refine wpAnyH_done (by kernel_rfl) ?_ _
              go_wp2_with fail
              go_meet
              exact ⟨_, w4, rfl, S4.out, O4.out, G4.out⟩
            · skip
              go_simp
              refine (KF.out u21 (below_tr BW.out b21)).mono ?_
              rintro r u24 ⟨rfl, h24⟩
              have b24 := below_tr b21 h24
              have e24 := one_below e21 h24
              obtain ⟨f0, f1, f2, f3, f4⟩ := SW.out u24 b24
              clear h24
              refine hK.out _ _ ⟨f0, f1, f3, f4⟩ (fun hHeld => ?_)
              clear hK K f0 f1 f2 f3 f4
              try simp only [Act.put, List.getElem_toArray, List.getElem_cons_zero, List.getElem_cons_succ, List.setIfInBounds_toArray, List.set_cons_zero, List.set_cons_succ]
              refine wpAnyH_ready (rs := [4]) (by kernel_rfl) (by simp) ?_
              refine AllReadyH.cons rfl (fun K hK => ?_) AllReadyH.nil
              obtain ⟨f0, f1, f2, f3, f4⟩ := SW.out u24 b24
              go_simp
              refine hK.out _ _ ⟨f0, f1, f3, f4⟩ (fun hHeld => ?_)
              clear hK K f0 f1 f2 f3 f4
              try simp only [Act.put, List.getElem_toArray, List.getElem_cons_zero, List.getElem_cons_succ, List.setIfInBounds_toArray, List.set_cons_zero, List.set_cons_succ]
              refine wpAnyH_ready (rs := [13]) (by kernel_rfl) (by simp) ?_
              refine AllReadyH.cons rfl (fun K hK => ?_) AllReadyH.nil
              go_simp
              refine (KI.out u24 wc.heap.size b24 e24 (Nat.le_refl _)).mono ?_
              rintro r w4 ⟨v5, rfl, o4, g4⟩
              have S4 := hid ((S.out.below (below_tr BW.out b24)).goes g4 hnq.out)
              have O4 : Hid (OwnLk w4 base v5 X2) := by { show OwnLk _ _ _ _; rw [HX2.out]; exact o4 }
              have G4 : Hid (Goes (ownB (.slice aq Q.length cq)) w w4 (fun _ => False)) := goes_two (below_tr BW.out b24) g4
              have L4 := lock_goes b24 (by have := BW.out.size; have := HB.out; have := hbw.out; omega) (SW.out u24 b24).2.2.2 g4 hnb.out
              obtain ⟨r0, r1, r2, r3, r4⟩ := S4.out.cells
              obtain ⟨a4, c4, rfl, _⟩ := O4.out.at_
              obtain ⟨l0, l1⟩ := L4
              clear o4 g4
              refine hK.out _ _ ⟨r0, r1, l0, l1⟩ (fun hHeld => ?_)
              clear hK K
              try simp only [Act.put, List.getElem_toArray, List.getElem_cons_zero, List.getElem_cons_succ, List.setIfInBounds_toArray, List.set_cons_zero, List.set_cons_succ]
              refine wpAnyH_take (i := 14) (v := ?tv64) rfl (by kernel_rfl) (by kernel_rfl) (by kernel_rfl) (fun _ _ _ h => h) (Or.inl ⟨by rfl, ?th64⟩) (by assumption) ?tr64
              case th64 => (intro w hSw; (try dsimp only at hSw); go_simp; all_goals (with_reducible rfl))
              simp only [Act.put, List.getElem_toArray, List.getElem_cons_zero, List.getElem_cons_succ, List.setIfInBounds_toArray, List.set_cons_zero, List.set_cons_succ]
              refine wpAnyH_take (i := 15) (v := ?tv65) rfl (by kernel_rfl) (by kernel_rfl) (by kernel_rfl) (fun _ _ _ h => h) (Or.inl ⟨by rfl, ?th65⟩) (by assumption) ?tr65
              case th65 => (intro w hSw; (try dsimp only at hSw); go_simp; all_goals (with_reducible rfl))
              simp only [Act.put, List.getElem_toArray, List.getElem_cons_zero, List.getElem_cons_succ, List.setIfInBounds_toArray, List.set_cons_zero, List.set_cons_succ]
              refine wpAnyH_ready (rs := [16]) (by kernel_rfl) (by simp) ?_
              refine AllReadyH.cons rfl (fun K hK => ?_) AllReadyH.nil
              go_simp
              refine hK.out _ _ (held_set hpB.out ⟨r0, r1, l0, l1⟩) (fun hHeld => ?_)
              clear hK K
              try simp only [Act.put, List.getElem_toArray, List.getElem_cons_zero, List.getElem_cons_succ, List.setIfInBounds_toArray, List.set_cons_zero, List.set_cons_succ]
              refine wpAnyH_done (by kernel_rfl) ?_ _
              go_wp2_with fail
              go_meet
              exact ⟨_, w4, rfl, S4.out, O4.out, G4.out⟩
        · skip
          obtain ⟨u26, z26⟩ : ∃ u, u = (wc.alloc (.cells #[.int .i64 t, .int .i64 m] 62)).drew := ⟨_, rfl⟩
          have b26 : Below wc.heap.size wc u26 := by rw [z26]; exact (below_tr (bx _ _) (Below.refl _ _).drew)
          have e26 : OneAt u26 wc.heap.size ⟨t, m⟩ := by rw [z26]; exact heap_alloc_new wc _
          obtain ⟨f0, f1, f2, f3, f4⟩ := SW.out u26 b26
          have q26 := hid z26
          clear z26
          go_simp
          rw [← q26.out]
          refine hK.out _ _ ⟨f0, f1, f3, f4⟩ (fun hHeld => ?_)
          clear hK K f0 f1 f2 f3 f4
          try simp only [Act.put, List.getElem_toArray, List.getElem_cons_zero, List.getElem_cons_succ, List.setIfInBounds_toArray, List.set_cons_zero, List.set_cons_succ]
          refine wpAnyH_ready (rs := [4, 7]) (by kernel_rfl) (by simp) ?_
          refine AllReadyH.cons rfl (fun K hK => ?_) (AllReadyH.cons rfl (fun K hK => ?_) AllReadyH.nil)
          · skip
            obtain ⟨f0, f1, f2, f3, f4⟩ := SW.out u26 b26
            go_simp
            refine hK.out _ _ ⟨f0, f1, f3, f4⟩ (fun hHeld => ?_)
            clear hK K f0 f1 f2 f3 f4
            try simp only [Act.put, List.getElem_toArray, List.getElem_cons_zero, List.getElem_cons_succ, List.setIfInBounds_toArray, List.set_cons_zero, List.set_cons_succ]
            refine wpAnyH_ready (rs := [7]) (by kernel_rfl) (by simp) ?_
            refine AllReadyH.cons rfl (fun K hK => ?_) AllReadyH.nil
            obtain ⟨f0, f1, f2, f3, f4⟩ := SW.out u26 b26
            go_simp
            refine hK.out _ _ ⟨f0, f1, f3, f4⟩ (fun hHeld => ?_)
            clear hK K f0 f1 f2 f3 f4
            try simp only [Act.put, List.getElem_toArray, List.getElem_cons_zero, List.getElem_cons_succ, List.setIfInBounds_toArray, List.set_cons_zero, List.set_cons_succ]
            refine wpAnyH_ready (rs := [10]) (by kernel_rfl) (by simp) ?_
            refine AllReadyH.cons rfl (fun K hK => ?_) AllReadyH.nil
            go_simp
            refine (KF.out u26 (below_tr BW.out b26)).mono ?_
            rintro r u29 ⟨rfl, h29⟩
            have b29 := below_tr b26 h29
            have e29 := one_below e26 h29
            obtain ⟨f0, f1, f2, f3, f4⟩ := SW.out u29 b29
            clear h29
            refine hK.out _ _ ⟨f0, f1, f3, f4⟩ (fun hHeld => ?_)
            clear hK K f0 f1 f2 f3 f4
            try simp only [Act.put, List.getElem_toArray, List.getElem_cons_zero, List.getElem_cons_succ, List.setIfInBounds_toArray, List.set_cons_zero, List.set_cons_succ]
            refine wpAnyH_ready (rs := [13]) (by kernel_rfl) (by simp) ?_
            refine AllReadyH.cons rfl (fun K hK => ?_) AllReadyH.nil
            go_simp
            refine (KI.out u29 wc.heap.size b29 e29 (Nat.le_refl _)).mono ?_
            rintro r w4 ⟨v5, rfl, o4, g4⟩
            have S4 := hid ((S.out.below (below_tr BW.out b29)).goes g4 hnq.out)
            have O4 : Hid (OwnLk w4 base v5 X2) := by { show OwnLk _ _ _ _; rw [HX2.out]; exact o4 }
            have G4 : Hid (Goes (ownB (.slice aq Q.length cq)) w w4 (fun _ => False)) := goes_two (below_tr BW.out b29) g4
            have L4 := lock_goes b29 (by have := BW.out.size; have := HB.out; have := hbw.out; omega) (SW.out u29 b29).2.2.2 g4 hnb.out
            obtain ⟨r0, r1, r2, r3, r4⟩ := S4.out.cells
            obtain ⟨a4, c4, rfl, _⟩ := O4.out.at_
            obtain ⟨l0, l1⟩ := L4
            clear o4 g4
            refine hK.out _ _ ⟨r0, r1, l0, l1⟩ (fun hHeld => ?_)
            clear hK K
            try simp only [Act.put, List.getElem_toArray, List.getElem_cons_zero, List.getElem_cons_succ, List.setIfInBounds_toArray, List.set_cons_zero, List.set_cons_succ]
            refine wpAnyH_take (i := 14) (v := ?tv66) rfl (by kernel_rfl) (by kernel_rfl) (by kernel_rfl) (fun _ _ _ h => h) (Or.inl ⟨by rfl, ?th66⟩) (by assumption) ?tr66
            case th66 => (intro w hSw; (try dsimp only at hSw); go_simp; all_goals (with_reducible rfl))
            simp only [Act.put, List.getElem_toArray, List.getElem_cons_zero, List.getElem_cons_succ, List.setIfInBounds_toArray, List.set_cons_zero, List.set_cons_succ]
            refine wpAnyH_take (i := 15) (v := ?tv67) rfl (by kernel_rfl) (by kernel_rfl) (by kernel_rfl) (fun _ _ _ h => h) (Or.inl ⟨by rfl, ?th67⟩) (by assumption) ?tr67
            case th67 => (intro w hSw; (try dsimp only at hSw); go_simp; all_goals (with_reducible rfl))
            simp only [Act.put, List.getElem_toArray, List.getElem_cons_zero, List.getElem_cons_succ, List.setIfInBounds_toArray, List.set_cons_zero, List.set_cons_succ]
            refine wpAnyH_ready (rs := [16]) (by kernel_rfl) (by simp) ?_
            refine AllReadyH.cons rfl (fun K hK => ?_) AllReadyH.nil
            go_simp
            refine hK.out _ _ (held_set hpB.out ⟨r0, r1, l0, l1⟩) (fun hHeld => ?_)
            clear hK K
            try simp only [Act.put, List.getElem_toArray, List.getElem_cons_zero, List.getElem_cons_succ, List.setIfInBounds_toArray, List.set_cons_zero, List.set_cons_succ]
            refine wpAnyH_done (by kernel_rfl) ?_ _
            go_wp2_with fail
            go_meet
            exact ⟨_, w4, rfl, S4.out, O4.out, G4.out⟩
          · skip
            obtain ⟨f0, f1, f2, f3, f4⟩ := SW.out u26 b26
            go_simp
            refine hK.out _ _ ⟨f0, f1, f3, f4⟩ (fun hHeld => ?_)
            clear hK K f0 f1 f2 f3 f4
            try simp only [Act.put, List.getElem_toArray, List.getElem_cons_zero, List.getElem_cons_succ, List.setIfInBounds_toArray, List.set_cons_zero, List.set_cons_succ]
            refine wpAnyH_ready (rs := [4, 10]) (by kernel_rfl) (by simp) ?_
            refine AllReadyH.cons rfl (fun K hK => ?_) (AllReadyH.cons rfl (fun K hK => ?_) AllReadyH.nil)
            · skip
              obtain ⟨f0, f1, f2, f3, f4⟩ := SW.out u26 b26
              go_simp
              refine hK.out _ _ ⟨f0, f1, f3, f4⟩ (fun hHeld => ?_)
              clear hK K f0 f1 f2 f3 f4
              try simp only [Act.put, List.getElem_toArray, List.getElem_cons_zero, List.getElem_cons_succ, List.setIfInBounds_toArray, List.set_cons_zero, List.set_cons_succ]
              refine wpAnyH_ready (rs := [10]) (by kernel_rfl) (by simp) ?_
              refine AllReadyH.cons rfl (fun K hK => ?_) AllReadyH.nil
              go_simp
              refine (KF.out u26 (below_tr BW.out b26)).mono ?_
              rintro r u32 ⟨rfl, h32⟩
              have b32 := below_tr b26 h32
              have e32 := one_below e26 h32
              obtain ⟨f0, f1, f2, f3, f4⟩ := SW.out u32 b32
              clear h32
              refine hK.out _ _ ⟨f0, f1, f3, f4⟩ (fun hHeld => ?_)
              clear hK K f0 f1 f2 f3 f4
              try simp only [Act.put, List.getElem_toArray, List.getElem_cons_zero, List.getElem_cons_succ, List.setIfInBounds_toArray, List.set_cons_zero, List.set_cons_succ]
              refine wpAnyH_ready (rs := [13]) (by kernel_rfl) (by simp) ?_
              refine AllReadyH.cons rfl (fun K hK => ?_) AllReadyH.nil
              go_simp
              refine (KI.out u32 wc.heap.size b32 e32 (Nat.le_refl _)).mono ?_
              rintro r w4 ⟨v5, rfl, o4, g4⟩
              have S4 := hid ((S.out.below (below_tr BW.out b32)).goes g4 hnq.out)
              have O4 : Hid (OwnLk w4 base v5 X2) := by { show OwnLk _ _ _ _; rw [HX2.out]; exact o4 }
              have G4 : Hid (Goes (ownB (.slice aq Q.length cq)) w w4 (fun _ => False)) := goes_two (below_tr BW.out b32) g4
              have L4 := lock_goes b32 (by have := BW.out.size; have := HB.out; have := hbw.out; omega) (SW.out u32 b32).2.2.2 g4 hnb.out
              obtain ⟨r0, r1, r2, r3, r4⟩ := S4.out.cells
              obtain ⟨a4, c4, rfl, _⟩ := O4.out.at_
              obtain ⟨l0, l1⟩ := L4
              clear o4 g4
              refine hK.out _ _ ⟨r0, r1, l0, l1⟩ (fun hHeld => ?_)
              clear hK K
              try simp only [Act.put, List.getElem_toArray, List.getElem_cons_zero, List.getElem_cons_succ, List.setIfInBounds_toArray, List.set_cons_zero, List.set_cons_succ]
              refine wpAnyH_take (i := 14) (v := ?tv68) rfl (by kernel_rfl) (by kernel_rfl) (by kernel_rfl) (fun _ _ _ h => h) (Or.inl ⟨by rfl, ?th68⟩) (by assumption) ?tr68
              case th68 => (intro w hSw; (try dsimp only at hSw); go_simp; all_goals (with_reducible rfl))
              simp only [Act.put, List.getElem_toArray, List.getElem_cons_zero, List.getElem_cons_succ, List.setIfInBounds_toArray, List.set_cons_zero, List.set_cons_succ]
              refine wpAnyH_take (i := 15) (v := ?tv69) rfl (by kernel_rfl) (by kernel_rfl) (by kernel_rfl) (fun _ _ _ h => h) (Or.inl ⟨by rfl, ?th69⟩) (by assumption) ?tr69
              case th69 => (intro w hSw; (try dsimp only at hSw); go_simp; all_goals (with_reducible rfl))
              simp only [Act.put, List.getElem_toArray, List.getElem_cons_zero, List.getElem_cons_succ, List.setIfInBounds_toArray, List.set_cons_zero, List.set_cons_succ]
              refine wpAnyH_ready (rs := [16]) (by kernel_rfl) (by simp) ?_
              refine AllReadyH.cons rfl (fun K hK => ?_) AllReadyH.nil
              go_simp
              refine hK.out _ _ (held_set hpB.out ⟨r0, r1, l0, l1⟩) (fun hHeld => ?_)
              clear hK K
              try simp only [Act.put, List.getElem_toArray, List.getElem_cons_zero, List.getElem_cons_succ, List.setIfInBounds_toArray, List.set_cons_zero, List.set_cons_succ]
              refine wpAnyH_done (by kernel_rfl) ?_ _
              go_wp2_with fail
              go_meet
              exact ⟨_, w4, rfl, S4.out, O4.out, G4.out⟩
            · skip
              go_simp
              refine (KF.out u26 (below_tr BW.out b26)).mono ?_
              rintro r u33 ⟨rfl, h33⟩
              have b33 := below_tr b26 h33
              have e33 := one_below e26 h33
              obtain ⟨f0, f1, f2, f3, f4⟩ := SW.out u33 b33
              clear h33
              refine hK.out _ _ ⟨f0, f1, f3, f4⟩ (fun hHeld => ?_)
              clear hK K f0 f1 f2 f3 f4
              try simp only [Act.put, List.getElem_toArray, List.getElem_cons_zero, List.getElem_cons_succ, List.setIfInBounds_toArray, List.set_cons_zero, List.set_cons_succ]
              refine wpAnyH_ready (rs := [4]) (by kernel_rfl) (by simp) ?_
              refine AllReadyH.cons rfl (fun K hK => ?_) AllReadyH.nil
              obtain ⟨f0, f1, f2, f3, f4⟩ := SW.out u33 b33
              go_simp
              refine hK.out _ _ ⟨f0, f1, f3, f4⟩ (fun hHeld => ?_)
              clear hK K f0 f1 f2 f3 f4
              try simp only [Act.put, List.getElem_toArray, List.getElem_cons_zero, List.getElem_cons_succ, List.setIfInBounds_toArray, List.set_cons_zero, List.set_cons_succ]
              refine wpAnyH_ready (rs := [13]) (by kernel_rfl) (by simp) ?_
              refine AllReadyH.cons rfl (fun K hK => ?_) AllReadyH.nil
              go_simp
              refine (KI.out u33 wc.heap.size b33 e33 (Nat.le_refl _)).mono ?_
              rintro r w4 ⟨v5, rfl, o4, g4⟩
              have S4 := hid ((S.out.below (below_tr BW.out b33)).goes g4 hnq.out)
              have O4 : Hid (OwnLk w4 base v5 X2) := by { show OwnLk _ _ _ _; rw [HX2.out]; exact o4 }
              have G4 : Hid (Goes (ownB (.slice aq Q.length cq)) w w4 (fun _ => False)) := goes_two (below_tr BW.out b33) g4
              have L4 := lock_goes b33 (by have := BW.out.size; have := HB.out; have := hbw.out; omega) (SW.out u33 b33).2.2.2 g4 hnb.out
              obtain ⟨r0, r1, r2, r3, r4⟩ := S4.out.cells
              obtain ⟨a4, c4, rfl, _⟩ := O4.out.at_
              obtain ⟨l0, l1⟩ := L4
              clear o4 g4
              refine hK.out _ _ ⟨r0, r1, l0, l1⟩ (fun hHeld => ?_)
              clear hK K
              try simp only [Act.put, List.getElem_toArray, List.getElem_cons_zero, List.getElem_cons_succ, List.setIfInBounds_toArray, List.set_cons_zero, List.set_cons_succ]
              refine wpAnyH_take (i := 14) (v := ?tv70) rfl (by kernel_rfl) (by kernel_rfl) (by kernel_rfl) (fun _ _ _ h => h) (Or.inl ⟨by rfl, ?th70⟩) (by assumption) ?tr70
              case th70 => (intro w hSw; (try dsimp only at hSw); go_simp; all_goals (with_reducible rfl))
              simp only [Act.put, List.getElem_toArray, List.getElem_cons_zero, List.getElem_cons_succ, List.setIfInBounds_toArray, List.set_cons_zero, List.set_cons_succ]
              refine wpAnyH_take (i := 15) (v := ?tv71) rfl (by kernel_rfl) (by kernel_rfl) (by kernel_rfl) (fun _ _ _ h => h) (Or.inl ⟨by rfl, ?th71⟩) (by assumption) ?tr71
              case th71 => (intro w hSw; (try dsimp only at hSw); go_simp; all_goals (with_reducible rfl))
              simp only [Act.put, List.getElem_toArray, List.getElem_cons_zero, List.getElem_cons_succ, List.setIfInBounds_toArray, List.set_cons_zero, List.set_cons_succ]
              refine wpAnyH_ready (rs := [16]) (by kernel_rfl) (by simp) ?_
              refine AllReadyH.cons rfl (fun K hK => ?_) AllReadyH.nil
              go_simp
              refine hK.out _ _ (held_set hpB.out ⟨r0, r1, l0, l1⟩) (fun hHeld => ?_)
              clear hK K
              try simp only [Act.put, List.getElem_toArray, List.getElem_cons_zero, List.getElem_cons_succ, List.setIfInBounds_toArray, List.set_cons_zero, List.set_cons_succ]
              refine wpAnyH_done (by kernel_rfl) ?_ _
              go_wp2_with fail
              go_meet
              exact ⟨_, w4, rfl, S4.out, O4.out, G4.out⟩
      case rest =>
        obtain ⟨vq', w4, rfl, hX⟩ := hcut
        have S4 := hid (hX.out.1.put2 vq')
        have keep : ∀ (v : Value) (L : List Lk.Lo), OwnLk w4 base v L → OwnLk (w4.setCell ⟨pb, po + 2, none⟩ vq') base v L := fun v L h => h.keep fun g hg => Below.heap_setCell _ ⟨pb, po + 2, none⟩ _ _ (by show g ≠ pb; exact fun e => own_ne h hX.out.1.blk hT (by rw [hg]; exact congrArg some e))
        have O4 := hid (keep _ _ hX.out.2.1)
        have hvh : ∀ g, (Value.slice ah H.length ch).ownBlock = some g → ¬ ownB (.slice aq Q.length cq) g := fun g hg h => hap.out g hg h
        have H4 := hid (keep _ _ (OH.out.goes hX.out.2.2 hvh))
        have G4 : Hid (Goes (fun b => b = pb ∨ (Value.slice ah H.length ch).ownBlock = some b ∨ (Value.slice aq Q.length cq).ownBlock = some b) w (w4.setCell ⟨pb, po + 2, none⟩ vq') (fun _ => False)) := by
          have g := hX.out.2.2
          refine ⟨g.os, g.tape, g.output, by simpa [World.setCell] using g.size, fun k hk hn => ?_, fun _ h => h.elim⟩
          exact (Below.heap_setCell _ ⟨pb, po + 2, none⟩ _ _ (fun e => hn (.inl e))).trans (g.block k hk (fun e => hn (.inr (.inr e))))
        generalize w4.setCell ⟨pb, po + 2, none⟩ vq' = w5 at *
        clear x0 x1 x2 y0 y1
        go_wp2_with fail
        go_ret
        refine ⟨_, vq', rfl, ?_, by rw [HA.out]; exact H4.out, by rw [HA.out]; exact O4.out, G4.out⟩
        rw [set_same S.out.c1]
        exact S4.out
end Go.Proofs.Ytjoaedkgjnchoan.PLock
