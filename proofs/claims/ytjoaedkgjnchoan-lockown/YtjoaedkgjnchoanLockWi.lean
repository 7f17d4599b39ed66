/- lock.withItem, walked: the table in rows of its own, with the item in it, and the item's place; nothing that was there has turned. Conditions: a right table that lies where its slice says. -/
import Derived.Test.YtjoaedkgjnchoanLockRIns
import Derived.Test.YtjoaedkgjnchoanLockDrp
namespace Go.Proofs.Ytjoaedkgjnchoan.PLock
open Go Go.RowKit PPool
set_option maxRecDepth 100000

/-- append of one item that was laid new, as a step of a region that draws its order. -/
theorem step_app1_rw {ops : Array Oper} {o : Oper} {a : Act} {w : World} {K : Act → World → Prop} {Q : Exit → Act → World → Prop} {E : Prop} (hgd : o.guard = none) (s x : Operand)
    (ho : o.op = .call { callee := .builtin .append, args := #[s, x], argTypes := #[58, 58] })
    (base : Nat) (v : Value) (Y : List Rw) (hs : a.eval s = v) (hown : OwnIt w base v Y) (xb : Nat) (z : Rw) (hx : a.eval x = .slice (some ⟨xb, 0, none⟩) 1 1) (hX : ROne w xb z)
    (h63 : Y.length ≤ 2000) (hbase : base ≤ w.heap.size)
    (h : ∀ g cap w', OwnIt w' base (.slice (some ⟨g, 0, none⟩) (Y.length + 1) cap) (Y ++ [z]) → w.grownBy w' v.ownBlock → K (a.put o.dst (.slice (some ⟨g, 0, none⟩) (Y.length + 1) cap)) w') :
    if Region.wanted o (yielded ops a.tmps) = true then Oper.wp Try.prog o a w K Q else E := by
  obtain ⟨i0, hi, hz0, hz1, hz2⟩ := info_parts item_info
  refine step_append_lies w hgd s x 58 ho base 66 i0 (.agg #[.int .i64 0, .slice none 0 0, .slice none 0 0]) 3 56 Try.underlying58 hi hz0 hz1 hz2 rfl (by decide) v Y.length (Y.flatMap ic) hs hown ⟨xb, 0, none⟩ 1 1 (ic z) hx rfl ?_ (ic_one z) (by omega) (by unfold maxLen; omega) (by omega) hbase w.heap.size rfl ?_
  · intro j u hj
    exact hX.at_.flat j u (by simpa using hj)
  · intro g cap w' ho' hg' hat _
    exact h g cap w' (OwnIt.grows ho') hg'

/-- Whose blocks an item's lists have. -/
def Rw.blk (x : Rw) (g : Nat) : Prop := x.vh.ownBlock = some g ∨ x.vq.ownBlock = some g
/-- A table in rows of its own, all apart. -/
structure TbOwn (w : World) (base : Nat) (v : Value) (P : List Rw) (T : List Lk.It) : Prop where
  row : OwnIt w base v P
  len : P.length = T.length
  it : ∀ (j : Nat) (x : Rw) (y : Lk.It), P[j]? = some x → T[j]? = some y → x.i = y.i ∧ OwnLk w base x.vh y.h ∧ OwnLk w base x.vq y.q
  apart : P.Pairwise fun x y => ∀ g, x.blk g → ¬ y.blk g
  self : ∀ x ∈ P, ∀ g, x.vh.ownBlock = some g → x.vq.ownBlock ≠ some g
theorem TbOwn.nil (w : World) (base : Nat) : TbOwn w base (.slice none 0 0) [] [] := ⟨OwnIt.nil _ _, rfl, fun j x y h => by simp at h, List.Pairwise.nil, fun x h => by cases h⟩
theorem TbOwn.below {w w' : World} {base : Nat} {v : Value} {P : List Rw} {T : List Lk.It} (h : TbOwn w base v P T) (hb : Below w.heap.size w w') : TbOwn w' base v P T :=
  ⟨h.row.below hb, h.len, fun j x y hx hy => ⟨(h.it j x y hx hy).1, (h.it j x y hx hy).2.1.below hb, (h.it j x y hx hy).2.2.below hb⟩, h.apart, h.self⟩
theorem TbOwn.other {w : World} {base : Nat} {v : Value} {P : List Rw} {T : List Lk.It} (h : TbOwn w base v P T) {x : Rw} (hx : x ∈ P) : ∃ y ∈ T, x.i = y.i ∧ OwnLk w base x.vh y.h ∧ OwnLk w base x.vq y.q := by
  obtain ⟨j, hj⟩ := List.getElem?_of_mem hx
  obtain ⟨y, hy⟩ : ∃ y, T[j]? = some y := ⟨_, List.getElem?_eq_getElem (by rw [← h.len]; exact (List.getElem?_eq_some_iff.1 hj).1)⟩
  exact ⟨y, List.mem_of_getElem? hy, h.it j x y hj hy⟩
theorem own_lock_items {w : World} {b1 b2 : Nat} {v V : Value} {L : List Lk.Lo} {P : List Rw} (h : OwnLk w b1 v L) (k : OwnIt w b2 V P) {g : Nat} (hg : v.ownBlock = some g) : V.ownBlock ≠ some g := fun e => by
  obtain ⟨c1, e1⟩ := items_ty k e
  exact own_ne h e1 (by decide) hg
theorem OwnLk.grownRow {w w' : World} {b1 b2 : Nat} {v V : Value} {L : List Lk.Lo} {P : List Rw} (h : OwnLk w b1 v L) (k : OwnIt w b2 V P) (hg : w.grownBy w' V.ownBlock) : OwnLk w' b1 v L :=
  h.keep fun g hv => hg.block g (h.lt g hv).2 (fun e => own_lock_items h k hv e.symm)
/-- An item more, whose lists are newer than all. -/
theorem TbOwn.snoc {w w2 w3 : World} {base : Nat} {v v' : Value} {P : List Rw} {T : List Lk.It} {x : Rw} {y : Lk.It} (h : TbOwn w base v P T) (hb : Below w.heap.size w w2) (hi : x.i = y.i) (hh : OwnLk w2 w.heap.size x.vh y.h) (hq : OwnLk w2 w.heap.size x.vq y.q) (hs : ∀ g, x.vh.ownBlock = some g → x.vq.ownBlock ≠ some g) (hbase : base ≤ w.heap.size)
    (ho : OwnIt w3 base v' (P ++ [x])) (hg : w2.grownBy w3 v.ownBlock) : TbOwn w3 base v' (P ++ [x]) (T ++ [y]) := by
  have r2 := h.row.below hb
  refine ⟨ho, by simp [h.len], fun j a b ha hb2 => ?_, ?_, fun a ha => ?_⟩
  · rcases Nat.lt_trichotomy j P.length with hj | hj | hj
    · rw [List.getElem?_append_left hj] at ha
      rw [List.getElem?_append_left (by rw [← h.len]; exact hj)] at hb2
      obtain ⟨q1, q2, q3⟩ := h.it j a b ha hb2
      exact ⟨q1, (q2.below hb).grownRow r2 hg, (q3.below hb).grownRow r2 hg⟩
    · rw [List.getElem?_append_right (by omega), hj, Nat.sub_self] at ha
      rw [List.getElem?_append_right (by rw [← h.len]; omega), hj, h.len, Nat.sub_self] at hb2
      cases ha; cases hb2
      exact ⟨hi, (hh.lower hbase).grownRow r2 hg, (hq.lower hbase).grownRow r2 hg⟩
    · rw [List.getElem?_eq_none (by simp; omega)] at ha
      cases ha
  · rw [List.pairwise_append]
    refine ⟨h.apart, List.pairwise_singleton _ _, fun a ha b hb2 g hg2 => ?_⟩
    rw [List.mem_singleton] at hb2
    subst hb2
    obtain ⟨z, _, _, o1, o2⟩ := h.other ha
    have hlt : g < w.heap.size := by
      rcases hg2 with e | e
      · exact (o1.lt g e).2
      · exact (o2.lt g e).2
    intro hx
    rcases hx with e | e
    · have := (hh.lt g e).1; omega
    · have := (hq.lt g e).1; omega
  · rcases List.mem_append.1 ha with ha | ha
    · exact h.self a ha
    · rw [List.mem_singleton] at ha
      subst ha
      exact hs
/-- An item with nothing, in its place. -/
theorem TbOwn.insert {w w3 : World} {base : Nat} {v v' : Value} {P : List Rw} {T : List Lk.It} (h : TbOwn w base v P T) (i : Int) (k : Nat) (hk : k ≤ T.length) (ho : OwnIt w3 base v' (P.take k ++ ⟨i, none, 0, 0, none, 0, 0⟩ :: P.drop k))
    (hg : Goes (ownB v) w w3 (ownB v')) : TbOwn w3 base v' (P.take k ++ ⟨i, none, 0, 0, none, 0, 0⟩ :: P.drop k) (T.take k ++ ⟨i, [], []⟩ :: T.drop k) := by
  have kp : ∀ (u : Value) (L : List Lk.Lo), OwnLk w base u L → OwnLk w3 base u L := fun u L hu => hu.goes hg fun g hgu e => own_lock_items hu h.row hgu e
  have hl := h.len
  have t1 : (P.take k).length = k := by rw [List.length_take]; omega
  have t2 : (T.take k).length = k := by rw [List.length_take]; omega
  refine ⟨ho, by simp [h.len], fun j a b ha hb2 => ?_, ?_, fun a ha => ?_⟩
  · rcases Nat.lt_trichotomy j k with hj | hj | hj
    · rw [List.getElem?_append_left (by omega), List.getElem?_take, if_pos hj] at ha hb2
      obtain ⟨q1, q2, q3⟩ := h.it j a b ha hb2
      exact ⟨q1, kp _ _ q2, kp _ _ q3⟩
    · subst hj
      rw [List.getElem?_append_right (by omega), t1, Nat.sub_self] at ha
      rw [List.getElem?_append_right (by omega), t2, Nat.sub_self] at hb2
      cases ha; cases hb2
      exact ⟨rfl, OwnLk.nil _ _, OwnLk.nil _ _⟩
    · rw [List.getElem?_append_right (by omega), t1, show j - k = (j - k - 1) + 1 by omega, List.getElem?_cons_succ, List.getElem?_drop, show k + (j - k - 1) = j - 1 by omega] at ha
      rw [List.getElem?_append_right (by omega), t2, show j - k = (j - k - 1) + 1 by omega, List.getElem?_cons_succ, List.getElem?_drop, show k + (j - k - 1) = j - 1 by omega] at hb2
      obtain ⟨q1, q2, q3⟩ := h.it (j - 1) a b ha hb2
      exact ⟨q1, kp _ _ q2, kp _ _ q3⟩
  · have hp := h.apart
    rw [← List.take_append_drop k P, List.pairwise_append] at hp
    rw [List.pairwise_append, List.pairwise_cons]
    refine ⟨hp.1, ⟨fun b _ g hg2 => ?_, hp.2.1⟩, fun a ha b hb2 => ?_⟩
    · rcases hg2 with e | e <;> cases e
    · rcases List.mem_cons.1 hb2 with rfl | hb2
      · intro g _ hx
        rcases hx with e | e <;> cases e
      · exact hp.2.2 a ha b hb2
  · rcases List.mem_append.1 ha with ha | ha
    · exact h.self a (List.mem_of_mem_take ha)
    · rcases List.mem_cons.1 ha with rfl | ha
      · intro g e; cases e
      · exact h.self a (List.mem_of_mem_drop ha)

set_option maxHeartbeats 8000000 in
theorem withItem_any (w : World) (a : Option Addr) (c : Nat) (T : List Lk.It) (i : Int) (h : TbAt w a T) (hg : Lk.Good T) :
    Calls Try.prog 50 #[.slice a T.length c, .int .i64 i] w fun e w' => ∃ v P, e = .returned (.tuple #[v, .int .i64 (Lk.at_ T i : Int)]) ∧ TbOwn w' w.heap.size v P (Lk.withI T i) ∧ Below w.heap.size w w' := by
  have H := hid h
  have HG := hid hg
  have KC := hid fun W v L h hl => copyOf_any W v L h hl
  obtain ⟨N, hN⟩ : ∃ N, N = T.length := ⟨_, rfl⟩
  have HN := hid hN
  have n20 : (N : Int) ≤ 20 := by have := hg.len; omega
  rw [← hN]
  clear h hg hN
  go_enter Try.func50, Try.ntmps50
  go_wp2_with fail
  go_loopw [6, 12] (fun al j wr => ∃ (k : Nat) (V : Value) (P : List Rw), k ≤ N ∧ V = al ∧ j = .int .i64 (k : Int) ∧ Hid (TbOwn wr w.heap.size V P (T.take k)) ∧ Hid (Below w.heap.size w wr)) (fun _ j _ => N - (intOf j).toNat)
  case atStart => exact ⟨0, _, [], Nat.zero_le _, rfl, rfl, TbOwn.nil _ _, Below.refl _ _⟩
  case round =>
    obtain ⟨k, V, P, hk, rfl, rfl, hV, hb⟩ := hrel
    by_cases hlt : k < N
    · obtain ⟨x, hx⟩ : ∃ x, T[k]? = some x := ⟨_, List.getElem?_eq_getElem (by have := HN.out; omega)⟩
      obtain ⟨b, o, vh, vq, rfl, d0, d1, d2, lh, lq⟩ := (H.out.below hb.out) k x hx
      have k0 : (0 : Int) ≤ (k : Int) := by omega
      have k1 : (k : Int) < (N : Int) := by omega
      have hr := (HG.out.it x (List.mem_of_getElem? hx)).2.2
      have l12h := hr.rh.len
      have l12q := hr.rq.len
      have HTk : Hid (T.take (k + 1) = T.take k ++ [x]) := by
        obtain ⟨g1, g2⟩ := List.getElem?_eq_some_iff.1 hx
        show _ = _
        rw [List.take_succ_eq_append_getElem g1, g2]
      have hPl : Hid (P.length ≤ 20) := by
        show _ ≤ _
        rw [hV.out.len, List.length_take]
        have := HN.out
        omega
      have LH := hid lh
      have LQ := hid lq
      obtain ⟨ah, ch, rfl, _⟩ := lh
      obtain ⟨aq, cq, rfl, _⟩ := lq
      obtain ⟨nh, hnh⟩ : ∃ n, n = x.h.length := ⟨_, rfl⟩
      obtain ⟨nq, hnq⟩ : ∃ n, n = x.q.length := ⟨_, rfl⟩
      rw [← hnh] at d1 LH l12h
      rw [← hnq] at d2 LQ l12q
      have HNH := hid hnh
      have HNQ := hid hnq
      obtain ⟨W0, hW0⟩ : ∃ W0, W0 = wr.alloc (.cells #[.int .i64 x.i, .slice ah nh ch, .slice aq nq cq] 66) := ⟨_, rfl⟩
      obtain ⟨B, hB⟩ : ∃ B, B = wr.heap.size := ⟨_, rfl⟩
      have SB : Hid (∀ W, Below W0.heap.size W0 W → W.cell? ⟨B, 0, none⟩ = some (.int .i64 x.i) ∧ W.cell? ⟨B, 1, none⟩ = some (.slice ah nh ch) ∧ W.cell? ⟨B, 2, none⟩ = some (.slice aq nq cq)) := fun W hW => by rw [hW0] at hW; rw [hB]; exact ibox hW
      have B0 : Hid (Below wr.heap.size wr W0) := by show Below _ _ _; rw [hW0]; exact bx _ _
      have BD : Below W0.heap.size W0 W0.drew := (Below.refl _ _).drew
      have hs0 : Hid (W0.heap.size = B + 1) := by show _ = _; rw [hW0, hB]; simp
      have HW0 := hid hW0
      have HB := hid hB
      have xi : ∃ xi, xi = x.i := ⟨_, rfl⟩
      clear hx hr hW0 hB hnh hnq xi
      go_upto_region 5 with fail
      rw [← HW0.out, ← HB.out]
      refine wp_region_held_drew (S := fun W => W.cell? ⟨B, 0, none⟩ = some (.int .i64 x.i) ∧ W.cell? ⟨B, 1, none⟩ = some (.slice ah nh ch) ∧ W.cell? ⟨B, 2, none⟩ = some (.slice aq nq cq)) (by kernel_rfl) (SB.out _ BD) (fun hHeld => ?_)
      refine wpAnyH_take (i := 0) (v := ?tv1) rfl (by kernel_rfl) (by kernel_rfl) (by kernel_rfl) (fun _ _ _ h => h) (Or.inl ⟨by rfl, ?th1⟩) (by assumption) ?tr1
      case th1 => (intro w hSw; (try dsimp only at hSw); go_simp; all_goals (with_reducible rfl))
      simp only [Act.put, List.getElem_toArray, List.getElem_cons_zero, List.setIfInBounds_toArray, List.set_cons_zero, List.set_cons_succ]
      refine wpAnyH_take (i := 1) (v := ?tv2) rfl (by kernel_rfl) (by kernel_rfl) (by kernel_rfl) (fun _ _ _ h => h) (Or.inl ⟨by rfl, ?th2⟩) (by assumption) ?tr2
      case th2 => (intro w hSw; (try dsimp only at hSw); go_simp; all_goals (with_reducible rfl))
      simp only [Act.put, List.getElem_toArray, List.getElem_cons_zero, List.getElem_cons_succ, List.setIfInBounds_toArray, List.set_cons_zero, List.set_cons_succ]
      refine wpAnyH_take (i := 2) (v := ?tv3) rfl (by kernel_rfl) (by kernel_rfl) (by kernel_rfl) (fun _ _ _ h => h) (Or.inl ⟨by rfl, ?th3⟩) (by assumption) ?tr3
      case th3 => (intro w hSw; (try dsimp only at hSw); go_simp; all_goals (with_reducible rfl))
      simp only [Act.put, List.getElem_toArray, List.getElem_cons_zero, List.getElem_cons_succ, List.setIfInBounds_toArray, List.set_cons_zero, List.set_cons_succ]
      refine wpAnyH_take (i := 3) (v := ?tv4) rfl (by kernel_rfl) (by kernel_rfl) (by kernel_rfl) (fun _ _ _ h => h) (Or.inl ⟨by rfl, ?th4⟩) (by assumption) ?tr4
      case th4 => (intro w hSw; (try dsimp only at hSw); go_simp; all_goals (with_reducible rfl))
      simp only [Act.put, List.getElem_toArray, List.getElem_cons_zero, List.getElem_cons_succ, List.setIfInBounds_toArray, List.set_cons_zero, List.set_cons_succ]
      refine wpAnyH_take (i := 4) (v := ?tv5) rfl (by kernel_rfl) (by kernel_rfl) (by kernel_rfl) (fun _ _ _ h => h) (Or.inl ⟨by rfl, ?th5⟩) (by assumption) ?tr5
      case th5 => (intro w hSw; (try dsimp only at hSw); go_simp; all_goals (with_reducible rfl))
      simp only [Act.put, List.getElem_toArray, List.getElem_cons_zero, List.getElem_cons_succ, List.setIfInBounds_toArray, List.set_cons_zero, List.set_cons_succ]
      refine wpAnyH_take (i := 6) (v := ?tv6) rfl (by kernel_rfl) (by kernel_rfl) (by kernel_rfl) (fun _ _ _ h => h) (Or.inl ⟨by rfl, ?th6⟩) (by assumption) ?tr6
      case th6 => (intro w hSw; (try dsimp only at hSw); go_simp; all_goals (with_reducible rfl))
      simp only [Act.put, List.getElem_toArray, List.getElem_cons_zero, List.getElem_cons_succ, List.setIfInBounds_toArray, List.set_cons_zero, List.set_cons_succ]
      refine wpAnyH_take (i := 7) (v := ?tv7) rfl (by kernel_rfl) (by kernel_rfl) (by kernel_rfl) (fun _ _ _ h => h) (Or.inl ⟨by rfl, ?th7⟩) (by assumption) ?tr7
      case th7 => (intro w hSw; (try dsimp only at hSw); go_simp; all_goals (with_reducible rfl))
      simp only [Act.put, List.getElem_toArray, List.getElem_cons_zero, List.getElem_cons_succ, List.setIfInBounds_toArray, List.set_cons_zero, List.set_cons_succ]
      refine wpAnyH_ready (rs := [5]) (by kernel_rfl) (by simp) ?_
      refine AllReadyH.cons rfl (fun K hK => ?_) AllReadyH.nil
      go_simp
      refine (KC.out _ _ x.h (LH.out.below (below_tr B0.out BD)) (by have := HNH.out; omega)).mono ?_
      rintro r v5 ⟨u1, rfl, o1, hb1⟩
      have C1 : Below W0.heap.size W0 v5 := below_tr BD hb1
      refine hK.out _ _ (SB.out _ C1) (fun hHeld => ?_)
      clear hK K
      try simp only [Act.put, List.getElem_toArray, List.getElem_cons_zero, List.getElem_cons_succ, List.setIfInBounds_toArray, List.set_cons_zero, List.set_cons_succ]
      refine wpAnyH_ready (rs := [8]) (by kernel_rfl) (by simp) ?_
      refine AllReadyH.cons rfl (fun K hK => ?_) AllReadyH.nil
      go_simp
      refine (KC.out _ _ x.q (LQ.out.below (below_tr B0.out C1)) (by have := HNQ.out; omega)).mono ?_
      rintro r v8 ⟨u2, rfl, o2, hb2⟩
      have C2 : Below W0.heap.size W0 v8 := below_tr C1 hb2
      have O1 : Hid (OwnLk v8 wr.heap.size u1 x.h) := (o1.below hb2).lower (by have := BD.size; have := B0.out.size; omega)
      have O2 : Hid (OwnLk v8 wr.heap.size u2 x.q) := o2.lower (by have := C1.size; have := B0.out.size; omega)
      have AP : Hid (∀ g, u1.ownBlock = some g → u2.ownBlock ≠ some g) := fun g e1 e2 => by
        have := (o1.lt g e1).2
        have := (o2.lt g e2).1
        omega
      clear o1 o2 hb1 hb2 C1
      obtain ⟨a1, c1, e1, _⟩ := O1.out.at_
      obtain ⟨a2, c2, e2, _⟩ := O2.out.at_
      obtain ⟨n1, hn1⟩ : ∃ n, n = x.h.length := ⟨_, rfl⟩
      obtain ⟨n2, hn2⟩ : ∃ n, n = x.q.length := ⟨_, rfl⟩
      rw [← hn1] at e1
      rw [← hn2] at e2
      subst e1; subst e2
      clear hn1 hn2
      refine hK.out _ _ (SB.out _ C2) (fun hHeld => ?_)
      clear hK K
      try simp only [Act.put, List.getElem_toArray, List.getElem_cons_zero, List.getElem_cons_succ, List.setIfInBounds_toArray, List.set_cons_zero, List.set_cons_succ]
      refine wpAnyH_take (i := 9) (v := ?tv8) rfl (by kernel_rfl) (by kernel_rfl) (by kernel_rfl) (fun _ _ _ h => h) (Or.inl ⟨by rfl, ?th8⟩) (by assumption) ?tr8
      case th8 => (intro w hSw; (try dsimp only at hSw); go_simp; all_goals (with_reducible rfl))
      simp only [Act.put, List.getElem_toArray, List.getElem_cons_zero, List.getElem_cons_succ, List.setIfInBounds_toArray, List.set_cons_zero, List.set_cons_succ]
      refine wpAnyH_ready (rs := [10]) (by kernel_rfl) (by simp) ?_
      refine AllReadyH.cons rfl (fun K hK => ?_) AllReadyH.nil
      obtain ⟨v9, hv9⟩ : ∃ v9, v9 = v8.alloc (.cells #[.int .i64 x.i, .slice a1 n1 c1, .slice a2 n2 c2] 66) := ⟨_, rfl⟩
      have C3 : Below W0.heap.size W0 v9 := by rw [hv9]; exact below_tr C2 (bx _ _)
      have E3 : Hid (ROne v9 v8.heap.size ⟨x.i, a1, n1, c1, a2, n2, c2⟩) := by show ROne _ _ _; rw [hv9]; exact heap_alloc_new v8 _
      have M3 : Hid (Below v8.heap.size v8 v9) := by show Below _ _ _; rw [hv9]; exact bx _ _
      have HV9 := hid hv9
      clear hv9
      go_simp
      rw [← HV9.out]
      clear HV9
      refine hK.out _ _ (SB.out _ C3) (fun hHeld => ?_)
      clear hK K
      try simp only [Act.put, List.getElem_toArray, List.getElem_cons_zero, List.getElem_cons_succ, List.setIfInBounds_toArray, List.set_cons_zero, List.set_cons_succ]
      have BV : Below wr.heap.size wr v9 := below_tr B0.out C3
      refine wpAnyH_ready (rs := [11]) (by kernel_rfl) (by simp) ?_
      refine AllReadyH.cons rfl (fun K hK => ?_) AllReadyH.nil
      refine step_app1_rw (by rfl) _ _ (by rfl) w.heap.size V P (by rfl) (hV.out.row.below BV) v8.heap.size ⟨x.i, a1, n1, c1, a2, n2, c2⟩ (by rfl) E3.out (by have := hPl.out; omega) (Nat.le_trans hb.out.size BV.size) ?_
      intro g cap w9 ho hg9
      have T9 := hid (hV.out.snoc (x := ⟨x.i, a1, n1, c1, a2, n2, c2⟩) (y := x) BV rfl (O1.out.below M3.out) (O2.out.below M3.out) AP.out hb.out.size ho hg9)
      have B9 : Hid (Below w.heap.size w w9) := (below_tr hb.out BV).grown hg9 (below_tr hb.out BV).size (fun g hg2 => (hV.out.row.lt g hg2).1)
      have S9 : W0.heap.size = B + 1 := hs0.out
      have hrowB : ∀ g, V.ownBlock = some g → g ≠ B := fun g hg2 e => by have := (hV.out.row.lt g hg2).2; have := HB.out; omega
      have hc9 : w9.heap[B]? = v9.heap[B]? := hg9.block B (by have := C3.size; omega) (fun e => hrowB B e.symm rfl)
      have hS9 := SB.out _ C3
      clear ho hg9 O1 O2 AP E3 M3
      refine hK.out _ _ (⟨(World.cell?_of_block (a := ⟨B, 0, none⟩) hc9).trans hS9.1, (World.cell?_of_block (a := ⟨B, 1, none⟩) hc9).trans hS9.2.1, (World.cell?_of_block (a := ⟨B, 2, none⟩) hc9).trans hS9.2.2⟩) (fun hHeld => ?_)
      clear hK K
      try simp only [Act.put, List.getElem_toArray, List.getElem_cons_zero, List.getElem_cons_succ, List.setIfInBounds_toArray, List.set_cons_zero, List.set_cons_succ]
      refine wpAnyH_take (i := 12) (v := ?tv9) rfl (by kernel_rfl) (by kernel_rfl) (by kernel_rfl) (fun _ _ _ h => h) (Or.inl ⟨by rfl, ?th9⟩) (by assumption) ?tr9
      case th9 => (intro w hSw; (try dsimp only at hSw); go_simp; all_goals (with_reducible rfl))
      simp only [Act.put, List.getElem_toArray, List.getElem_cons_zero, List.getElem_cons_succ, List.setIfInBounds_toArray, List.set_cons_zero, List.set_cons_succ]
      refine wpAnyH_done (by kernel_rfl) ?_ _
      have TT : Hid (TbOwn w9 w.heap.size (.slice (some ⟨g, 0, none⟩) (P.length + 1) cap) (P ++ [⟨x.i, a1, n1, c1, a2, n2, c2⟩]) (T.take (k + 1))) := by show TbOwn _ _ _ _ _; rw [HTk.out]; exact T9.out
      clear T9 HTk hS9 hc9 hrowB S9
      go_wp2_with fail
      go_roundw
      case rel => first
        | exact ⟨k + 1, _, _, by omega, rfl, by go_num, TT, B9⟩
        | ((repeat apply Exists.intro); exact ⟨⟨k + 1, _, _, by omega, rfl, by go_num, TT, B9⟩, rfl⟩)
      case measure => simp [intOf]; omega
    · obtain rfl : k = N := by omega
      have j3 : decide ((k : Int) < (k : Int)) = false := by simp
      have hV2 : Hid (TbOwn wr w.heap.size V P T) := by have := hV.out; rwa [HN.out, List.take_length] at this
      obtain ⟨av, cv, e, hpv, _, hcv1, hcv2⟩ := hV2.out.row.at_
      have hPN : P.length = k := by rw [hV2.out.len]; exact HN.out.symm
      rw [hPN] at e hcv1
      have HPN := hid hPN
      have HPV := hid hpv
      subst e
      have K0 : (0 : Int) ≤ (k : Int) := by omega
      clear hV hpv hPN
      go_wp2_with fail
      go_loopw [9] (fun u wq => ∃ q : Nat, q ≤ k ∧ u = .int .i64 (q : Int) ∧ Hid (Lk.at_ T i = q + Lk.at_ (T.drop q) i) ∧ Hid (Below wr.heap.size wr wq)) (fun u _ => k - (intOf u).toNat)
      case atStart => exact ⟨0, Nat.zero_le _, rfl, by show _ = _; simp, Below.refl _ _⟩
      case round =>
        obtain ⟨q, hq, rfl, hA, hb2⟩ := hrel
        by_cases hqk : q < k
        · obtain ⟨y, hy⟩ : ∃ y, T[q]? = some y := ⟨_, List.getElem?_eq_getElem (by have := HN.out; omega)⟩
          obtain ⟨x, hx⟩ : ∃ x, P[q]? = some x := ⟨_, List.getElem?_eq_getElem (by have := HPN.out; omega)⟩
          obtain ⟨b, o, e3, d0, _⟩ := HPV.out q x hx
          have hxy := (hV2.out.it q x y hx hy).1
          have d0 := keep1 hb2.out d0
          subst e3
          have q0 : (0 : Int) ≤ (q : Int) := by omega
          have q1 : (q : Int) < (k : Int) := by omega
          have HY := hid hy
          have HD : Hid (Lk.at_ (T.drop q) i = if y.i < i then Lk.at_ (T.drop (q + 1)) i + 1 else 0) := by show _ = _; rw [drop_of hy, Lk.at_cons]
          rw [hxy] at d0
          clear hy hx hxy
          by_cases hi : y.i < i
          · have NA : Hid (Lk.at_ T i = q + 1 + Lk.at_ (T.drop (q + 1)) i) := by have h1 := hA.out; have h2 := HD.out; rw [if_pos hi] at h2; show _ = _; omega
            have hi' : decide (y.i < i) = true := by simpa using hi
            clear HD hA
            go_wp2_with fail
            go_roundw
            case rel => first
              | exact ⟨q + 1, by omega, by go_num, NA, hb2⟩
              | ((repeat apply Exists.intro); exact ⟨⟨q + 1, by omega, by go_num, NA, hb2⟩, rfl⟩)
            case measure => simp [intOf]; omega
          · have hi' : decide (y.i < i) = false := by simpa using hi
            have NA : Hid (Lk.at_ T i = q) := by have h1 := hA.out; have h2 := HD.out; rw [if_neg hi] at h2; show _ = _; omega
            have NT : Hid (Lk.there T i = decide (y.i = i)) := by
              show _ = _
              unfold Lk.there
              rw [NA.out, HY.out]
            have q2 : ((q : Int) == (k : Int)) = false := by simp; omega
            clear HD hA
            by_cases he : y.i = i
            · have hw : Hid (Lk.withI T i = T) := by show _ = _; unfold Lk.withI; rw [NT.out, decide_eq_true he, if_pos rfl]
              have he' : (y.i != i) = false := by simpa using he
              have TT : Hid (TbOwn wr w.heap.size (.slice (some ⟨b, o, none⟩) k cv) P (Lk.withI T i)) := by show TbOwn _ _ _ _ _; rw [hw.out]; exact hV2.out.below hb2.out
              have BB := hid (below_tr hb.out hb2.out)
              clear hV2 hb hb2 hw NT
              go_wp2_with fail
              go_ret2
              first | exact ⟨_, P, by rw [NA.out]; rfl, TT.out, BB.out⟩ | exact ⟨_, by rw [NA.out]; rfl, ⟨P, TT.out⟩, BB.out⟩
            · have hw : Hid (Lk.withI T i = T.take q ++ ⟨i, [], []⟩ :: T.drop q) := by show _ = _; unfold Lk.withI; rw [NT.out, decide_eq_false he, if_neg (by simp), NA.out]
              have he' : (y.i != i) = true := by simpa using he
              have VI := hid (hV2.out.below hb2.out)
              have BI := hid (below_tr hb.out hb2.out)
              have KI := hid fun W (hW : Below wr.heap.size wr W) (hv : ROne W wr.heap.size ⟨i, none, 0, 0, none, 0, 0⟩) => rinsert_any W w.heap.size (.slice (some ⟨b, o, none⟩) k cv) q wr.heap.size P ⟨i, none, 0, 0, none, 0, 0⟩ (VI.out.row.below hW) hv (fun e => by have := (VI.out.row.lt _ e).2; omega) (by have := HPN.out; omega) (by have := HPN.out; omega) (Nat.le_trans BI.out.size hW.size)
              clear hV2 hb hb2 NT
              go_wp2_with fail
              refine (KI.out _ (bx _ _) (heap_alloc_new wr _)).mono ?_
              rintro r w6 ⟨v6, rfl, o6, g6⟩
              have VA := VI.out.below (bx wr (.cells #[.int .i64 i, .slice none 0 0, .slice none 0 0] 66))
              have T6 : Hid (TbOwn w6 w.heap.size v6 (P.take q ++ ⟨i, none, 0, 0, none, 0, 0⟩ :: P.drop q) (Lk.withI T i)) := by show TbOwn _ _ _ _ _; rw [hw.out]; exact VA.insert i q (by have := HN.out; omega) o6 g6
              have B6 : Hid (Below w.heap.size w w6) := below_goes (below_tr BI.out (bx wr (.cells #[.int .i64 i, .slice none 0 0, .slice none 0 0] 66))) g6 (below_tr BI.out (bx _ _)).size (fun g hg => (VA.row.lt g hg).1)
              clear o6 g6 VA VI BI KI
              go_wp2_with fail
              go_ret2
              first | exact ⟨_, _, by rw [NA.out]; rfl, T6.out, B6.out⟩ | exact ⟨_, by rw [NA.out]; rfl, ⟨_, T6.out⟩, B6.out⟩
        · obtain rfl : q = k := by omega
          have j4 : decide ((q : Int) < (q : Int)) = false := by simp
          have NA : Hid (Lk.at_ T i = q) := by have h1 := hA.out; rw [HN.out, List.drop_length] at h1; show _ = _; rw [h1, HN.out]; rfl
          have NT : Hid (Lk.there T i = false) := by
            show _ = _
            unfold Lk.there
            rw [NA.out, List.getElem?_eq_none (by rw [HN.out]; exact Nat.le_refl _)]
          have hw : Hid (Lk.withI T i = T.take q ++ ⟨i, [], []⟩ :: T.drop q) := by show _ = _; unfold Lk.withI; rw [NT.out, if_neg (by simp), NA.out]
          clear hA
          have VI := hid (hV2.out.below hb2.out)
          have BI := hid (below_tr hb.out hb2.out)
          have KI := hid fun W (hW : Below wr.heap.size wr W) (hv : ROne W wr.heap.size ⟨i, none, 0, 0, none, 0, 0⟩) => rinsert_any W w.heap.size (.slice av q cv) q wr.heap.size P ⟨i, none, 0, 0, none, 0, 0⟩ (VI.out.row.below hW) hv (fun e => by have := (VI.out.row.lt _ e).2; omega) (by have := HPN.out; omega) (by have := HPN.out; omega) (Nat.le_trans BI.out.size hW.size)
          clear hV2 hb hb2 NT
          go_wp2_with fail
          refine (KI.out _ (bx _ _) (heap_alloc_new wr _)).mono ?_
          rintro r w6 ⟨v6, rfl, o6, g6⟩
          have VA := VI.out.below (bx wr (.cells #[.int .i64 i, .slice none 0 0, .slice none 0 0] 66))
          have T6 : Hid (TbOwn w6 w.heap.size v6 (P.take q ++ ⟨i, none, 0, 0, none, 0, 0⟩ :: P.drop q) (Lk.withI T i)) := by show TbOwn _ _ _ _ _; rw [hw.out]; exact VA.insert i q (by have := HN.out; omega) o6 g6
          have B6 : Hid (Below w.heap.size w w6) := below_goes (below_tr BI.out (bx wr (.cells #[.int .i64 i, .slice none 0 0, .slice none 0 0] 66))) g6 (below_tr BI.out (bx _ _)).size (fun g hg => (VA.row.lt g hg).1)
          clear o6 g6 VA VI BI KI
          go_wp2_with fail
          go_ret2
          first | exact ⟨_, _, by rw [NA.out]; rfl, T6.out, B6.out⟩ | exact ⟨_, by rw [NA.out]; rfl, ⟨_, T6.out⟩, B6.out⟩
end Go.Proofs.Ytjoaedkgjnchoan.PLock
