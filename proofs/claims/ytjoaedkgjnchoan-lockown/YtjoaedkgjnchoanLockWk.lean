/- lock.wake, walked: the queue's first ones are given what they wish, in the item that the pointer tells; to whom is told in a row of its own; what was there ahead stays. Conditions: how many locks there are. -/
import Derived.Test.YtjoaedkgjnchoanLockGiv
import Derived.Test.YtjoaedkgjnchoanLockWay
import Derived.Deep.LoopGhost
namespace Go.Proofs.Ytjoaedkgjnchoan.PLock
open Go Go.RowKit PPool
set_option maxRecDepth 100000

/-- How all stands while an item wakes. -/
structure Wk (w wr : World) (base pb po : Nat) (T : TypeId) (i : Int) (vh vq : Value) (H Q : List Lk.Lo) : Prop where
  sp : ∃ A, Spot wr pb po T A (.int .i64 i) vh vq
  oh : OwnLk wr base vh H
  q : ∃ a c, vq = .slice a Q.length c ∧ LkAt wr a Q ∧ Q.length ≤ c ∧ c ≤ maxLen ∧ (a = none → c = 0) ∧ ∀ p, a = some p → base ≤ p.block ∧ p.block < w.heap.size ∧ vh.ownBlock ≠ some p.block ∧ p.block ≠ pb ∧ TyAt wr p.block
  go : Goes (fun b => b = pb ∨ base ≤ b) w wr (fun b => b = pb ∨ base ≤ b)
  lt : pb < w.heap.size
  bs : base ≤ w.heap.size
theorem Wk.below {w wr wr' : World} {base pb po : Nat} {T : TypeId} {i : Int} {vh vq : Value} {H Q : List Lk.Lo} (h : Wk w wr base pb po T i vh vq H Q) (hb : Below wr.heap.size wr wr') : Wk w wr' base pb po T i vh vq H Q := by
  obtain ⟨A, sp⟩ := h.sp
  obtain ⟨a, c, e, q1, q2⟩ := h.q
  obtain ⟨q2, q3, q4, q5⟩ := q2
  exact ⟨⟨A, sp.below hb⟩, h.oh.below hb, ⟨a, c, e, q1.below hb, q2, q3, q4, fun p hp => by obtain ⟨r1, r2, r3, r4, r5⟩ := q5 p hp; exact ⟨r1, r2, r3, r4, r5.keep (hb.block _ r5.lt)⟩⟩, goes_below h.go hb, h.lt, h.bs⟩
theorem Wk.drew {w wr : World} {base pb po : Nat} {T : TypeId} {i : Int} {vh vq : Value} {H Q : List Lk.Lo} (h : Wk w wr base pb po T i vh vq H Q) : Wk w wr.drew base pb po T i vh vq H Q := h.below (Below.refl _ _).drew
theorem Wk.give {w wr w2 : World} {base pb po : Nat} {T : TypeId} {i : Int} {vh vh' vq : Value} {H H' Q : List Lk.Lo} {A : Array Value} (h : Wk w wr base pb po T i vh vq H Q) (hs : Spot w2 pb po T A (.int .i64 i) vh' vq) (ho : OwnLk w2 base vh' H') (hg : Goes (ownP pb vh) wr w2 (ownP pb vh')) : Wk w w2 base pb po T i vh' vq H' Q := by
  obtain ⟨a, c, e, q1, q2, q3, q4, q5⟩ := h.q
  refine ⟨⟨A, hs⟩, ho, ⟨a, c, e, q1.keep fun p hp => ?_, q2, q3, q4, fun p hp => ?_⟩, ?_, h.lt, h.bs⟩
  · obtain ⟨r1, r2, r3, r4, r5⟩ := q5 p hp
    refine hg.block _ (Nat.lt_of_lt_of_le r2 h.go.size) (fun hx => ?_)
    rcases hx with hx | hx
    · exact r4 hx
    · exact r3 hx
  · obtain ⟨r1, r2, r3, r4, r5⟩ := q5 p hp
    refine ⟨r1, r2, fun hx => ?_, r4, r5.keep (hg.block _ r5.lt (fun hx => by rcases hx with hx | hx; exact r4 hx; exact r3 hx))⟩
    rcases hg.grow p.block (.inr hx) with g | g
    · rcases g with g | g
      · exact r4 g
      · exact r3 g
    · have := h.go.size; omega
  · refine ⟨hg.os.trans h.go.os, hg.tape.trans h.go.tape, hg.output.trans h.go.output, Nat.le_trans h.go.size hg.size, fun k hk hn => ?_, fun k hk => .inl hk⟩
    refine (hg.block k (Nat.lt_of_lt_of_le hk h.go.size) (fun hx => ?_)).trans (h.go.block k hk hn)
    rcases hx with hx | hx
    · exact hn (.inl hx)
    · exact hn (.inr (h.oh.lt _ hx).1)
theorem Wk.next {w wr : World} {base pb po : Nat} {T : TypeId} {i : Int} {vh vq : Value} {H Q Q' : List Lk.Lo} (h : Wk w wr base pb po T i vh vq H Q) (hT : T ≠ 62) (a' : Option Addr) (c' : Nat) (hl : LkAt wr a' Q') (hc : Q'.length ≤ c') (hm : c' ≤ maxLen) (hn : a' = none → c' = 0)
    (hb : ∀ p, a' = some p → ∃ q n c, vq = .slice (some q) n c ∧ q.block = p.block) : Wk w (wr.setCell ⟨pb, po + 2, none⟩ (.slice a' Q'.length c')) base pb po T i vh (.slice a' Q'.length c') H Q' := by
  obtain ⟨A, sp⟩ := h.sp
  obtain ⟨a, c, e, q1, q2, q3, q4, q5⟩ := h.q
  have hq : ∀ p, a' = some p → base ≤ p.block ∧ p.block < w.heap.size ∧ vh.ownBlock ≠ some p.block ∧ p.block ≠ pb ∧ TyAt wr p.block := fun p hp => by
    obtain ⟨q, n, c2, e2, e3⟩ := hb p hp
    rw [e] at e2
    injection e2 with e4 _ _
    have := q5 q e4
    rw [e3] at this
    exact this
  refine ⟨⟨_, sp.put2 _⟩, h.oh.keep fun g hg => Below.heap_setCell _ ⟨pb, po + 2, none⟩ _ _ (by show g ≠ pb; exact fun e => own_ne h.oh sp.blk hT (by rw [hg]; exact congrArg some e)), ⟨a', c', rfl, hl.keep fun p hp => Below.heap_setCell _ ⟨pb, po + 2, none⟩ _ _ (by show p.block ≠ pb; exact (hq p hp).2.2.2.1), hc, hm, hn, fun p hp => by obtain ⟨r1, r2, r3, r4, r5⟩ := hq p hp; exact ⟨r1, r2, r3, r4, r5.keep (Below.heap_setCell _ ⟨pb, po + 2, none⟩ _ _ r4)⟩⟩, ?_, h.lt, h.bs⟩
  exact h.go.setCell (q := ⟨pb, po + 2, none⟩) (.inl (.inl rfl)) _
theorem Wk.grown {w wr w' : World} {base pb po : Nat} {T : TypeId} {i : Int} {vh vq : Value} {H Q : List Lk.Lo} {row : Option Nat} (h : Wk w wr base pb po T i vh vq H Q) (hg : wr.grownBy w' row) (hrow : ∀ g, row = Option.some g → w.heap.size ≤ g ∧ vh.ownBlock ≠ Option.some g) : Wk w w' base pb po T i vh vq H Q := by
  obtain ⟨A, sp⟩ := h.sp
  obtain ⟨a, c, e, q1, q2, q3, q4, q5⟩ := h.q
  have hlt := h.lt
  have hbs := h.bs
  refine ⟨⟨A, sp.grown hg (fun e => by have := (hrow _ e).1; omega)⟩, h.oh.keep fun g hv => hg.block g (h.oh.lt g hv).2 (fun e => (hrow g e.symm).2 hv), ⟨a, c, e, q1.keep fun p hp => ?_, q2, q3, q4, fun p hp => by obtain ⟨r1, r2, r3, r4, r5⟩ := q5 p hp; exact ⟨r1, r2, r3, r4, r5.keep (hg.block _ r5.lt (fun e => by have := (hrow _ e.symm).1; omega))⟩⟩, ?_, h.lt, h.bs⟩
  · obtain ⟨r1, r2, r3, r4, r5⟩ := q5 p hp
    exact hg.block _ (Nat.lt_of_lt_of_le r2 h.go.size) (fun e => by have := (hrow _ e.symm).1; omega)
  · exact h.go.grown hg fun k hk => .inr (hrow k hk).1
theorem rows_ne {w : World} {b1 b2 : Nat} {v V : Value} {L : List Lk.Lo} {R : List Int} (h : OwnLk w b1 v L) (k : OwnInts w b2 V R) {g : Nat} (hg : V.ownBlock = Option.some g) : v.ownBlock ≠ Option.some g := by
  intro e
  rcases k.2 with ⟨rfl, _⟩ | ⟨g1, cap, cur, rfl, _, hh, _⟩
  · cases hg
  · have hg : g1 = g := Option.some.inj hg
    subst hg
    rcases h.2 with ⟨rfl, _⟩ | ⟨g2, cap2, cur2, rfl, _, hh2, _⟩
    · cases e
    · have e : g2 = g1 := Option.some.inj e
      subst e
      rw [hh] at hh2
      injection hh2 with hh2
      injection hh2 with _ h2
      exact absurd h2 (by decide)
theorem Wk.lsIn {w wr : World} {base pb po : Nat} {T : TypeId} {i : Int} {vh vq : Value} {H Q : List Lk.Lo} (h : Wk w wr base pb po T i vh vq H Q) : LsIn wr base vq Q := by
  obtain ⟨a, c, e, q1, q2, q3, q4, q5⟩ := h.q
  exact ⟨a, c, e, q1, q2, q3, q4, fun p hp => ⟨(q5 p hp).1, (q5 p hp).2.2.2.2⟩⟩
/-- The first one cut off. -/
theorem slice_tail (b o n c : Nat) (wr : World) (q : Lk.Lo) (Q : List Lk.Lo) (hn : Q.length = n) (h : LkAt wr (some ⟨b, o, none⟩) (q :: Q)) (hc : n + 1 ≤ c) : ∃ a2, (∀ W : World, (Instr.slice 64 (.slice (some ⟨b, o, none⟩) (n + 1) c) (some (.int .i64 1)) none none).run Try.prog W = .ok (.slice a2 n (c - 1)) W) ∧ LkAt wr a2 Q ∧ (∀ p, a2 = some p → p.block = b) ∧ (a2 = none → c - 1 = 0) := by
  have u := Try.underlying64
  have z := Try.sizeOf62
  by_cases hc1 : c = 1
  · have hQ : Q = [] := List.eq_nil_of_length_eq_zero (by omega)
    have hn0 : n = 0 := by omega
    subst hQ; subst hc1; subst hn0
    exact ⟨some ⟨b, o, none⟩, fun W => by go_simp, LkAt.nil _ _, fun p hp => by cases hp; rfl, fun h => by cases h⟩
  · have k1 : (1 : Int) ≤ (n : Int) + 1 := by omega
    refine ⟨some ⟨b, o + 2, none⟩, fun W => by go_simp, ?_, fun p hp => by cases hp; rfl, fun h => by cases h⟩
    have := h.drop 1
    simpa using this

set_option maxHeartbeats 4000000 in
theorem wake_any (w : World) (base pb po : Nat) (T : TypeId) (A : Array Value) (i : Int) (vh vq : Value) (H Q : List Lk.Lo) (hs : Spot w pb po T A (.int .i64 i) vh vq) (hH : OwnLk w base vh H) (hQ : OwnLk w base vq Q) (hap : ∀ g, vh.ownBlock = some g → vq.ownBlock ≠ some g) (hT : T ≠ 62) (hb : base ≤ w.heap.size) (hl : H.length + Q.length ≤ 2000) :
    Calls Try.prog 53 #[.pointer (some ⟨pb, po, none⟩)] w fun e w' => ∃ vt vh' vq', e = .returned vt ∧ OwnInts w' w.heap.size vt (Lk.wake H Q).2.2 ∧ Hid (Wk w w' base pb po T i vh' vq' (Lk.wake H Q).1 (Lk.wake H Q).2.1) := by
  have K0 : Hid (Wk w w base pb po T i vh vq H Q) := by
    obtain ⟨a, c, e, q1, q5, q2, q3⟩ := hQ.at_
    refine ⟨⟨A, hs⟩, hH, ⟨a, c, e, q1, q2, q3, ?_, fun p hp => ?_⟩, Goes.refl _ _, lt_of_heap hs.blk, hb⟩
    · obtain ⟨a', c', e', _, _, _, h4⟩ := hQ.ls
      rw [e] at e'
      injection e' with ea _ ec
      subst ea; subst ec
      exact h4
    · have ho : vq.ownBlock = some p.block := by rw [e, hp]; rfl
      obtain ⟨_, _, e8, _, _, _, _, h8⟩ := hQ.lsIn
      rw [e, hp] at e8
      injection e8 with e9 _ _
      refine ⟨q5 p hp, (hQ.lt _ ho).2, fun hx => hap _ hx ho, (fun e => own_ne hQ hs.blk hT (by rw [ho, e])), (h8 p e9.symm).2⟩
  obtain ⟨R, hR⟩ : ∃ R, R = Lk.wake H Q := ⟨_, rfl⟩
  rw [← hR]
  have HR := hid hR
  have KC := hid fun W i a c L vq l h hl => canBeGiven_any W i a c L vq l h hl
  have KG := hid fun W A i vh vq H l hs hH hb hl => give_any W base pb po T A i vh vq H l hs hH hT hb hl
  have HB := hid hb
  have hii : ∃ i, Try.prog.info? 3 = some i ∧ i.zero = some (.int .i64 0) ∧ i.size = 1 ∧ i.bytes = 8 := info_parts (by kernel_rfl)
  obtain ⟨ii, g1, g2, g3, g4⟩ := hii
  clear hs hH hQ hap hb hR
  go_enter Try.func53, Try.ntmps53
  go_wp2_with fail
  go_loopg [3] Q.length (fun gn tv wr => ∃ (H1 Q1 : List Lk.Lo) (R1 : List Int) (V vh1 vq1 : Value), Hid (Q1.length = gn) ∧ V = tv ∧ Hid (R = ((Lk.wake H1 Q1).1, (Lk.wake H1 Q1).2.1, R1 ++ (Lk.wake H1 Q1).2.2)) ∧ Hid (OwnInts wr w.heap.size V R1) ∧ Hid (Wk w wr base pb po T i vh1 vq1 H1 Q1) ∧ Hid (H1.length + Q1.length ≤ 2000 ∧ R1.length + Q1.length ≤ 2000))
  case atStart => exact ⟨H, Q, [], _, vh, vq, rfl, rfl, by show _ = _; rw [HR.out]; simp, OwnR.nil _ _, K0, hl, by show 0 + _ ≤ _; omega⟩
  case round =>
    clear K0 HR
    obtain ⟨H1, Q1, R1, V, vh1, vq1, hgn, rfl, hR, hO, hK, hL⟩ := hrel
    cases Q1 with
    | nil =>
      obtain ⟨A1, sp⟩ := hK.out.sp
      obtain ⟨a1, c1, e1, _⟩ := hK.out.q
      obtain ⟨x0, x1, x2, _⟩ := sp.cells
      rw [e1] at x2
      have z0 : (([] : List Lk.Lo).length : Int) = 0 := rfl
      have z1 : ([] : List Lk.Lo).length = 0 := rfl
      have HF : Hid (R = (H1, [], R1)) := by have := hR.out; show _ = _; rw [this]; simp [Lk.wake]
      have HK2 := hid hK.out.drew
      have HKN : Hid (∀ n, Wk w (wr.drewN n) base pb po T i vh1 vq1 H1 []) := fun n => hK.out.below (below_drewN (Below.refl _ _) n)
      have HON : Hid (∀ n, OwnInts (wr.drewN n) w.heap.size V R1) := fun n => hO.out.below (below_drewN (Below.refl _ _) n)
      clear sp hR hgn hK hO
      go_wp2_with fail
      go_quiet (fail)
      go_wp2_with fail
      go_ret
      exact ⟨_, vh1, vq1, rfl, by rw [HF.out]; exact HON.out _, by rw [HF.out]; exact HKN.out _⟩
    | cons q Q1 =>
      obtain ⟨A1, sp⟩ := hK.out.sp
      obtain ⟨a1, c1, e1, q1, q2, q3, q4, q5⟩ := hK.out.q
      obtain ⟨b, o, rfl, d1, d2⟩ := q1 0 q rfl
      simp only [Nat.zero_mul, Nat.add_zero] at d1 d2
      obtain ⟨ah, ch, e2, hp, _, _⟩ := hK.out.oh.at_
      have HL1 : Hid (LkAt wr (some ⟨b, o, none⟩) (q :: Q1)) := q1
      obtain ⟨n, hn⟩ : ∃ n, n = Q1.length := ⟨_, rfl⟩
      have hnn : (q :: Q1).length = n + 1 := by rw [hn]; rfl
      rw [hnn] at e1 q2
      have HN := hid hn
      subst e1; subst e2
      have KC1 := hid (KC.out wr.drew (.int .i64 i) ah ch H1 (.slice (some ⟨b, o, none⟩) (n + 1) c1) q (hp.below (Below.refl _ _).drew) (by have := hL.out.1; omega))
      have HS : Hid (∀ W, Below wr.heap.size wr W → W.cell? ⟨pb, po, none⟩ = some (.int .i64 i) ∧ W.cell? ⟨pb, po + 1, none⟩ = some (.slice ah H1.length ch) ∧ W.cell? ⟨pb, po + 2, none⟩ = some (.slice (some ⟨b, o, none⟩) (n + 1) c1) ∧ W.cell? ⟨b, o, none⟩ = some (.int .i64 q.x) ∧ W.cell? ⟨b, o + 1, none⟩ = some (.int .i64 q.m)) := fun W hW => by
        obtain ⟨x0, x1, x2, _⟩ := (sp.below hW).cells
        exact ⟨x0, x1, x2, keep1 hW d1, keep1 hW d2⟩
      have HR := hid (show Lk.wake H1 (q :: Q1) = if Lk.can H1 q then ((Lk.wake (Lk.give H1 q) Q1).1, (Lk.wake (Lk.give H1 q) Q1).2.1, q.x :: (Lk.wake (Lk.give H1 q) Q1).2.2) else (H1, q :: Q1, []) from by rw [Lk.wake])
      have HGL : Hid ((Lk.give H1 q).length ≤ H1.length + 1) := by show _ ≤ _; rw [Lk.give_len]; split <;> omega
      have n2 : (n : Int) + 1 ≤ 2000 := by have := hL.out.1; rw [hnn] at this; omega
      have nc1 : (n : Int) + 1 ≤ (c1 : Int) := by omega
      have n0 : (0 : Int) < (n : Int) + 1 := by omega
      have n0' : decide ((0 : Int) < (n : Int) + 1) = true := by simp
      obtain ⟨qx, qm⟩ := q
      simp only at KC1 HS
      clear sp q1 d1 d2 hp hn
      obtain ⟨x0, x1, x2, x3, x4⟩ := HS.out wr (Below.refl _ _)
      cases hC : Lk.can H1 ⟨qx, qm⟩ with
      | false =>
        have HF : Hid (R = (H1, ⟨qx, qm⟩ :: Q1, R1)) := by have := hR.out; rw [HR.out, hC] at this; show _ = _; rw [this]; simp
        rw [hC] at KC1
        clear HR hR
        go_wp2_with fail
        go_region_held3 (fun W => W.cell? ⟨pb, po, none⟩ = some (.int .i64 i) ∧ W.cell? ⟨pb, po + 1, none⟩ = some (.slice ah H1.length ch) ∧ W.cell? ⟨pb, po + 2, none⟩ = some (.slice (some ⟨b, o, none⟩) (n + 1) c1) ∧ W.cell? ⟨b, o, none⟩ = some (.int .i64 qx) ∧ W.cell? ⟨b, o + 1, none⟩ = some (.int .i64 qm))
          ((refine HS.out _ ?_; first | exact B4.out | repeat (first | exact Below.refl _ _ | refine Below.drew ?_)))
          ((go_at_call 68; refine (KC1.out).mono ?_; rintro r w4 ⟨rfl, hb4⟩; have B4 : Hid (Below wr.heap.size wr w4) := below_tr (Below.refl _ _).drew hb4; clear hb4))
        have K5 := hid (hK.out.below B4.out)
        have O5 := hid (hO.out.below B4.out)
        clear x0 x1 x2 x3 x4
        go_wp2_with fail
        go_ret
        exact ⟨_, _, _, rfl, by rw [HF.out]; exact O5.out, by rw [HF.out]; exact K5.out⟩
      | true =>
        have HF : Hid (R = ((Lk.wake (Lk.give H1 ⟨qx, qm⟩) Q1).1, (Lk.wake (Lk.give H1 ⟨qx, qm⟩) Q1).2.1, (R1 ++ [qx]) ++ (Lk.wake (Lk.give H1 ⟨qx, qm⟩) Q1).2.2)) := by have := hR.out; rw [HR.out, hC] at this; show _ = _; rw [this]; simp
        rw [hC] at KC1
        clear HR hR
        go_wp2_with fail
        go_region_held3 (fun W => W.cell? ⟨pb, po, none⟩ = some (.int .i64 i) ∧ W.cell? ⟨pb, po + 1, none⟩ = some (.slice ah H1.length ch) ∧ W.cell? ⟨pb, po + 2, none⟩ = some (.slice (some ⟨b, o, none⟩) (n + 1) c1) ∧ W.cell? ⟨b, o, none⟩ = some (.int .i64 qx) ∧ W.cell? ⟨b, o + 1, none⟩ = some (.int .i64 qm))
          ((refine HS.out _ ?_; first | exact B4.out | repeat (first | exact Below.refl _ _ | refine Below.drew ?_)))
          ((go_at_call 68; refine (KC1.out).mono ?_; rintro r w4 ⟨rfl, hb4⟩; have B4 : Hid (Below wr.heap.size wr w4) := below_tr (Below.refl _ _).drew hb4; clear hb4))
        have K5 : Hid (Wk w (w4.alloc (.cells #[.int .i64 qx, .int .i64 qm] 62)) base pb po T i (.slice ah H1.length ch) (.slice (some ⟨b, o, none⟩) (n + 1) c1) H1 (⟨qx, qm⟩ :: Q1)) := hK.out.below (below_tr B4.out (bx _ _))
        have O5 : Hid (OwnInts (w4.alloc (.cells #[.int .i64 qx, .int .i64 qm] 62)) w.heap.size V R1) := hO.out.below (below_tr B4.out (bx _ _))
        have T5 : Hid (LkAt (w4.alloc (.cells #[.int .i64 qx, .int .i64 qm] 62)) (some ⟨b, o, none⟩) (⟨qx, qm⟩ :: Q1)) := HL1.out.below (below_tr B4.out (bx _ _))
        clear x0 x1 x2 x3 x4
        obtain ⟨x0, x1, x2, x3, x4⟩ := HS.out w4 B4.out
        obtain ⟨A5, sp5⟩ := K5.out.sp
        have KG5 := hid (KG.out _ A5 i _ _ H1 ⟨qx, qm⟩ sp5 K5.out.oh (Nat.le_trans HB.out K5.out.go.size) (by have := hL.out.1; omega))
        simp only at KG5
        have HX : Hid (¬ ownP pb (.slice ah H1.length ch) w4.heap.size) := fun h => by
          rcases h with h | h
          · have := K5.out.lt; have := hK.out.go.size; have := B4.out.size; omega
          · have := ((hK.out.below B4.out).oh.lt _ h).2; omega
        have HV : Hid (∀ g, V.ownBlock = some g → w.heap.size ≤ g ∧ ¬ ownP pb (.slice ah H1.length ch) g) := fun g hg => ⟨(O5.out.lt g hg).1, fun h => by
          rcases h with h | h
          · have := K5.out.lt; have := (O5.out.lt g hg).1; omega
          · exact rows_ne K5.out.oh O5.out hg h⟩
        have hbox : (w4.alloc (.cells #[.int .i64 qx, .int .i64 qm] 62)).heap[w4.heap.size]? = some (.cells #[.int .i64 qx, .int .i64 qm] 62 (0, 0)) := heap_alloc_new w4 _
        have HBX := hid hbox
        have hsz4 : Hid (w4.heap.size < (w4.alloc (.cells #[.int .i64 qx, .int .i64 qm] 62)).heap.size) := by show _ < _; simp
        clear sp5 KC1 hK hO HS HL1 hbox
        go_wp2_with fail
        refine KG5.out.mono ?_
        rintro r w6 ⟨vh2, rfl, s6, o6, g6⟩
        dsimp only
        have K6 := hid (K5.out.give s6 o6 g6)
        have HB6 : Hid (w6.heap[w4.heap.size]? = some (.cells #[.int .i64 qx, .int .i64 qm] 62 (0, 0))) := (g6.block _ hsz4.out HX.out).trans HBX.out
        have O6 : Hid (OwnInts w6 w.heap.size V R1) := O5.out.keep fun g hg => g6.block g (O5.out.lt g hg).2 (HV.out g hg).2
        clear s6 o6 g6 KG5 K5 O5 T5 HX HBX x0 x1 x2 x3 x4 B4
        obtain ⟨A6, sp6⟩ := K6.out.sp
        obtain ⟨x0, x1, x2, x3, x4⟩ := sp6.cells
        obtain ⟨a7, c7, e7, q7, _⟩ := K6.out.q
        injection e7 with e7a e7b e7c
        subst e7a; subst e7c
        clear e7b
        obtain ⟨a2, hsl, ht2, hb2, hn2⟩ := slice_tail b o n c1 w6 ⟨qx, qm⟩ Q1 HN.out.symm q7 (by omega)
        have K7 := hid (K6.out.next hT a2 (c1 - 1) ht2 (by have := HN.out; omega) (by omega) hn2 (fun p hp => ⟨⟨b, o, none⟩, n + 1, c1, rfl, by rw [hb2 p hp]⟩))
        have hm1 : (1 : Int) ≤ (c1 : Int) := by omega
        rw [← HN.out] at K7
        have O7 : Hid (OwnInts (w6.setCell ⟨pb, po + 2, none⟩ (.slice a2 n (c1 - 1))) w.heap.size V R1) := O6.out.keep fun g hg => Below.heap_setCell _ ⟨pb, po + 2, none⟩ _ _ (by show g ≠ pb; have := (O6.out.lt g hg).1; have := K6.out.lt; omega)
        have HB7 : Hid ((w6.setCell ⟨pb, po + 2, none⟩ (.slice a2 n (c1 - 1))).heap[w4.heap.size]? = some (.cells #[.int .i64 qx, .int .i64 qm] 62 (0, 0))) := (Below.heap_setCell _ ⟨pb, po + 2, none⟩ _ _ (by show w4.heap.size ≠ pb; intro e; have := HB6.out; rw [e, sp6.blk] at this; injection this with this; injection this with _ h2; exact hT h2)).trans HB6.out
        have hgn2 : Hid (Q1.length = gk - 1 ∧ Q1.length < gk) := by
          have := hgn.out
          rw [hnn] at this
          have := HN.out
          exact ⟨by omega, by omega⟩
        have hL2 : Hid (R1.length + (n + 1) ≤ 2000 ∧ H1.length + (n + 1) ≤ 2000) := by
          have := hL.out
          rw [hnn] at this
          exact ⟨this.2, this.1⟩
        clear sp6 q7 ht2 hb2 hn2 O6 HB6 K6 hnn hgn hL
        obtain ⟨w7, hw7⟩ : ∃ w7, w7 = w6.setCell ⟨pb, po + 2, none⟩ (.slice a2 n (c1 - 1)) := ⟨_, rfl⟩
        rw [← hw7] at K7 O7 HB7
        have HW7 := hid hw7
        clear hw7
        go_upto_region 6 with fail
        rw [← HW7.out]
        clear HW7 x0 x1 x2 x3 x4 hsl
        have y0 : w7.cell? ⟨w4.heap.size, 0, none⟩ = some (.int .i64 qx) := by rw [cell_of_row w7 _ _ _ _ _ HB7.out]; rfl
        have K8 : ∀ o, Hid (Wk w (w7.alloc o) base pb po T i vh2 (.slice a2 n (c1 - 1)) (Lk.give H1 ⟨qx, qm⟩) Q1) := fun o => K7.out.below (bx _ _)
        have O8 : ∀ o, Hid (OwnInts (w7.alloc o) w.heap.size V R1) := fun o => O7.out.below (bx _ _)
        clear K7 O7
        go_wp2_with (at_builtin; refine wpList_append_own _ rfl _ _ 68 rfl w.heap.size 3 ii (.int .i64 0) 1 8 Try.underlying68 g1 g2 g3 g4 rfl (by decide) _ _ _ rfl (O8 _).out ⟨w7.heap.size, 0, none⟩ 1 1 [.int .i64 qx] rfl rfl ?c1 ?c2 ?c3 ?c4 ?c5 ?_)
        case c1 =>
          intro q u hu
          rw [Addr.add_mid]
          exact (cell_of_row _ _ _ _ _ _ (heap_alloc_new w7 _)).trans (by simpa using hu)
        case c2 => intro v hv; rw [List.mem_singleton] at hv; subst hv; rfl
        case c3 => have := hL2.out.1; unfold maxLen; omega
        case c4 => have := hL2.out.1; omega
        case c5 => exact (K8 (.cells #[.int .i64 qx] 3)).out.go.size
        intro v' w8 ho8 hg8 hnil8
        have O9 : Hid (OwnInts w8 w.heap.size v' (R1 ++ [qx])) := OwnR.grows (by simpa using ho8)
        have K9 := hid ((K8 (.cells #[.int .i64 qx] 3)).out.grown hg8 (fun g hg => ⟨((O8 (.cells #[.int .i64 qx] 3)).out.lt g hg).1, rows_ne (K8 (.cells #[.int .i64 qx] 3)).out.oh (O8 (.cells #[.int .i64 qx] 3)).out hg⟩))
        have hL3 : Hid ((Lk.give H1 ⟨qx, qm⟩).length + Q1.length ≤ 2000 ∧ (R1 ++ [qx]).length + Q1.length ≤ 2000) := by
          have h1 := hL2.out
          have h2 := HGL.out
          have h3 := HN.out
          refine ⟨by omega, ?_⟩
          rw [List.length_append, List.length_singleton]
          omega
        clear ho8 hg8 hnil8 O8 K8 y0 HB7
        go_wp2_with fail
        go_roundg (gk - 1)
        case rel => first
          | exact ⟨_, Q1, _, v', vh2, _, hgn2.out.1, rfl, HF, O9, K9, hL3⟩
          | ((repeat apply Exists.intro); exact ⟨⟨_, Q1, _, v', vh2, _, hgn2.out.1, rfl, HF, O9, K9, hL3⟩, rfl⟩)
        all_goals have := hgn2.out; omega
end Go.Proofs.Ytjoaedkgjnchoan.PLock
