/- lock.Drop, walked: it answers what the plain words say: a table and a list in rows of their own; nothing that was there has turned. Conditions: the table lies where its slice says; a length that an int holds. -/
import Derived.Test.YtjoaedkgjnchoanLockWk
import Derived.Test.YtjoaedkgjnchoanLockCk
import Derived.Test.YtjoaedkgjnchoanLockRws
namespace Go.Proofs.Ytjoaedkgjnchoan.PLock
open Go Go.RowKit PPool
set_option maxRecDepth 100000

/-- append of numbers that lie somewhere, or nowhere. -/
theorem wpList_append_ints {ops : Array Oper} {rest : List Oper} {o : Oper} {a : Act} {w : World} {Q : Exit → Act → World → Prop} (hgd : o.guard = none) (s x : Operand)
    (ho : o.op = .call { callee := .builtin .append, args := #[s, x], argTypes := #[68, 68] })
    (base : Nat) (v : Value) (Y : List Int) (hs : a.eval s = v) (hown : OwnInts w base v Y) (vx : Value) (b2 : Nat) (X : List Int) (hx : a.eval x = vx) (hX : OwnInts w b2 vx X)
    (h63 : Y.length + X.length ≤ 100000) (hbase : base ≤ w.heap.size)
    (h : ∀ v' w', OwnInts w' base v' (Y ++ X) → w.grownBy w' v.ownBlock → wpList Try.prog ops Q rest (a.put o.dst v') w') : wpList Try.prog ops Q (o :: rest) a w := by
  have hii : ∃ i, Try.prog.info? 3 = some i ∧ i.zero = some (.int .i64 0) ∧ i.size = 1 ∧ i.bytes = 8 := info_parts (by kernel_rfl)
  obtain ⟨i0, hi, hz0, hz1, hz2⟩ := hii
  obtain ⟨xa, c, rfl, hp, _, hc1, hc2⟩ := hX.at_
  rcases hX.2 with ⟨e, h0⟩ | ⟨g, cap, cur, e, _⟩
  · injection e with e1 e2 e3
    have hX0 : X = [] := List.eq_nil_of_length_eq_zero h0
    subst e1; subst e3; subst hX0
    have hr := fun ty => run_append_owned_none (P := Try.prog) w base 68 ty 3 i0 1 Try.underlying68 hi v Y.length _ hown
    refine Lib.wpList_append_run w hgd s x 68 68 ho v (.slice none 0 0) hs hx v w (hr _) ?_
    refine h v w ?_ ⟨rfl, rfl, rfl, Nat.le_refl _, fun _ _ _ => rfl⟩
    rw [List.append_nil]; exact hown
  · injection e with e1 e2 e3
    subst e1
    refine wpList_append_own w hgd s x 68 ho base 3 i0 (.int .i64 0) 1 8 Try.underlying68 hi hz0 hz1 hz2 rfl (by decide) v Y.length (Y.map (Value.int .i64)) hs hown ⟨g, 0, none⟩ X.length c (X.map (Value.int .i64)) hx (by simp) ?_ ?_ (by unfold maxLen; omega) (by omega) hbase ?_
    · intro j u hj
      rw [List.getElem?_map] at hj
      cases hxj : X[j]? with
      | none => rw [hxj] at hj; cases hj
      | some y =>
        rw [hxj] at hj
        cases hj
        obtain ⟨b, o, e, d⟩ := hp j y hxj
        cases e
        rw [Addr.add_mid]
        exact d
    · intro u hu
      obtain ⟨y, _, rfl⟩ := List.mem_map.1 hu
      rfl
    · intro v' w' ho' hg' _
      refine h v' w' ?_ hg'
      show w'.ownsRow base 3 1 v' (Y ++ X).length ((Y ++ X).map (Value.int .i64))
      rw [List.length_append, List.map_append]
      exact ho'

/-- What a block of a row of numbers is not. -/
theorem ints_ty {w : World} {b : Nat} {V : Value} {R : List Int} (k : OwnInts w b V R) {g : Nat} (hg : V.ownBlock = some g) : ∃ cur, w.heap[g]? = some (.cells cur 3 (0, 0)) := by
  rcases k.2 with ⟨rfl, _⟩ | ⟨g1, cap, cur, rfl, _, hh, _⟩
  · cases hg
  · have hg : g1 = g := Option.some.inj hg
    subst hg
    exact ⟨cur, hh⟩
theorem items_ty {w : World} {b : Nat} {V : Value} {P : List Rw} (k : OwnIt w b V P) {g : Nat} (hg : V.ownBlock = some g) : ∃ cur, w.heap[g]? = some (.cells cur 66 (0, 0)) := by
  rcases k.2 with ⟨rfl, _⟩ | ⟨g1, cap, cur, rfl, _, hh, _⟩
  · cases hg
  · have hg : g1 = g := Option.some.inj hg
    subst hg
    exact ⟨cur, hh⟩
theorem ty_ne {w : World} {g : Nat} {c c' : Array Value} {T T' : TypeId} (h : w.heap[g]? = some (.cells c T (0, 0))) (h' : w.heap[g]? = some (.cells c' T' (0, 0))) : T = T' := by
  rw [h] at h'
  injection h' with h'
  injection h'
/-- A table, when a row of numbers grows. -/
theorem TbIn.grownInts {w w' : World} {base b2 : Nat} {v V : Value} {T : List Lk.It} {R : List Int} (h : TbIn w base v T) (k : OwnInts w b2 V R) (hg : w.grownBy w' V.ownBlock) : TbIn w' base v T := by
  obtain ⟨P, h1, h2, h3⟩ := h.row
  refine ⟨P, h1.keep fun g hv => ?_, h2, fun j x y hx hy => ?_⟩
  · refine hg.block g (h1.lt g hv).2 (fun e => ?_)
    obtain ⟨c1, e1⟩ := items_ty h1 hv
    obtain ⟨c2, e2⟩ := ints_ty k e.symm
    exact absurd (ty_ne e1 e2) (by decide)
  · have m := h3 j x y hx hy
    have hr : ∀ b, V.ownBlock = some b → ¬ TyAt w b := fun b hb ⟨c1, e1⟩ => by
      obtain ⟨c2, e2⟩ := ints_ty k hb
      exact absurd (ty_ne e1 e2) (by decide)
    exact ⟨m.i, m.h.grown hg hr, m.q.grown hg hr⟩
/-- A row of numbers, when a row of items grows. -/
theorem ints_grown {w w' : World} {base b2 : Nat} {v V : Value} {P : List Rw} {R : List Int} (h : OwnIt w base v P) (k : OwnInts w b2 V R) (hg : w.grownBy w' v.ownBlock) : OwnInts w' b2 V R :=
  k.keep fun g hv => hg.block g (k.lt g hv).2 (fun e => by
    obtain ⟨c1, e1⟩ := items_ty h e.symm
    obtain ⟨c2, e2⟩ := ints_ty k hv
    exact absurd (ty_ne e1 e2) (by decide))
theorem Means.grownRow {w w' : World} {base b2 : Nat} {v : Value} {P : List Rw} {x : Rw} {y : Lk.It} (m : Means w base x y) (h : OwnIt w b2 v P) (hg : w.grownBy w' v.ownBlock) : Means w' base x y := by
  have hr : ∀ b, v.ownBlock = some b → ¬ TyAt w b := fun b hb ⟨c1, e1⟩ => by
    obtain ⟨c2, e2⟩ := items_ty h hb
    exact absurd (ty_ne e1 e2) (by decide)
  exact ⟨m.i, m.h.grown hg hr, m.q.grown hg hr⟩
theorem Spot.put0 {w : World} {pb po : Nat} {T : TypeId} {A : Array Value} {x y z : Value} (h : Spot w pb po T A x y z) (v : Value) : Spot (w.setCell ⟨pb, po, none⟩ v) pb po T (A.setIfInBounds po v) v y z := by
  have l1 := lt_of_some h.c0
  refine ⟨?_, ?_, ?_, ?_⟩
  · rw [setCell_eq_setRow w pb po A T _ v h.blk]
    exact setRow_heap w pb A _ T _ h.blk
  · rw [Array.getElem?_setIfInBounds, if_pos rfl, if_pos l1]
  · rw [Array.getElem?_setIfInBounds, if_neg (by omega)]; exact h.c1
  · rw [Array.getElem?_setIfInBounds, if_neg (by omega)]; exact h.c2

def dropE (T : List Lk.It) (t : Int) : Int := if Lk.check T ≠ 0 then Lk.check T else if Lk.tx t then 0 else 1
def dropV (T : List Lk.It) (t : Int) : List Lk.It := if dropE T t = 0 then Lk.dropT T t else []
def dropG (T : List Lk.It) (t : Int) : List Int := if dropE T t = 0 then Lk.dropL T t else []
theorem dropT_next {T : List Lk.It} {k : Nat} {x : Lk.It} {t : Int} (hx : T[k]? = some x) : Lk.dropT (T.take (k + 1)) t = Lk.dropT (T.take k) t ++ (if Lk.full (Lk.drop1 t x) then [Lk.drop1 t x] else []) := by
  obtain ⟨h1, h2⟩ := List.getElem?_eq_some_iff.1 hx
  unfold Lk.dropT
  rw [List.take_succ_eq_append_getElem h1, List.map_append, List.filter_append, h2]
  congr 1
  cases h : Lk.full (Lk.drop1 t x) with
  | true => rw [List.map_singleton, List.filter_cons_of_pos (by exact h), if_pos rfl]; rfl
  | false => rw [List.map_singleton, List.filter_cons_of_neg (by rw [h]; simp), if_neg (by simp)]; rfl
theorem dropL_next {T : List Lk.It} {k : Nat} {x : Lk.It} {t : Int} (hx : T[k]? = some x) : Lk.dropL (T.take (k + 1)) t = Lk.dropL (T.take k) t ++ Lk.to1 t x := by
  obtain ⟨h1, h2⟩ := List.getElem?_eq_some_iff.1 hx
  unfold Lk.dropL
  rw [List.take_succ_eq_append_getElem h1, List.flatMap_append, h2]
  simp
theorem wake_few : ∀ (Q H : List Lk.Lo), (Lk.wake H Q).2.2.length ≤ Q.length
  | [], H => by simp [Lk.wake]
  | q :: Q, H => by
    unfold Lk.wake
    split
    · have := wake_few Q (Lk.give H q)
      simp
      omega
    · simp
theorem to1_few {x : Lk.It} (h : Lk.Right x) (t : Int) : (Lk.to1 t x).length ≤ 12 := by
  have h1 := wake_few (Lk.less x.q t) (Lk.less x.h t)
  have h2 := h.rq.len
  have h3 : (Lk.less x.q t).length ≤ x.q.length := List.length_filter_le _ _
  show (Lk.wake (Lk.less x.h t) (Lk.less x.q t)).2.2.length ≤ 12
  omega
theorem dropL_few {T : List Lk.It} (h : ∀ x ∈ T, Lk.Right x) (t : Int) : (Lk.dropL T t).length ≤ T.length * 12 := by
  unfold Lk.dropL
  induction T with
  | nil => simp
  | cons x T ih =>
    have h1 := to1_few (h x (.head _)) t
    have h2 := ih fun y hy => h y (.tail _ hy)
    rw [List.flatMap_cons, List.length_append, List.length_cons]
    omega

set_option maxHeartbeats 8000000 in
theorem drop_any (w : World) (a : Option Addr) (c : Nat) (T : List Lk.It) (t : Int) (h : TbAt w a T) (hl : T.length ≤ 9223372036854775807) :
    Calls Try.prog 25 #[.slice a T.length c, .int .i64 t] w fun e w' => ∃ v vt, e = .returned (.tuple #[v, vt, .int .i64 (dropE T t)]) ∧ TbIn w' w.heap.size v (dropV T t) ∧ OwnInts w' w.heap.size vt (dropG T t) ∧ Below w.heap.size w w' := by
  have H := hid h
  have K1 := hid (check_any w a c T h hl)
  have KT := hid fun W => isTx_any W t
  clear h
  by_cases hv : Lk.check T = 0
  rotate_left
  · have e1 : dropE T t = Lk.check T := by unfold dropE; rw [if_pos hv]
    have e2 : dropV T t = [] := by unfold dropV; rw [e1, if_neg hv]
    have e3 : dropG T t = [] := by unfold dropG; rw [e1, if_neg hv]
    rw [e1, e2, e3]
    generalize Lk.check T = y at *
    have hv0 : (y != 0) = true := by simpa using hv
    clear hv e1 e2 e3
    go_enter Try.func25, Try.ntmps25
    go_wp2_with fail
    refine K1.out.mono ?_
    rintro r w1 ⟨rfl, hb⟩
    have B1 := hid hb
    clear hb
    go_wp2_with fail
    go_ret3
    exact ⟨_, _, rfl, TbIn.nil _ _, OwnR.nil _ _, B1.out⟩
  rw [hv] at K1
  cases ht : Lk.tx t with
  | false =>
    have e1 : dropE T t = 1 := by unfold dropE; rw [if_neg (by simpa using hv), ht]; rfl
    have e2 : dropV T t = [] := by unfold dropV; rw [e1]; rfl
    have e3 : dropG T t = [] := by unfold dropG; rw [e1]; rfl
    rw [e1, e2, e3]
    rw [ht] at KT
    clear hv e1 e2 e3
    go_enter Try.func25, Try.ntmps25
    go_wp2_with fail
    refine K1.out.mono ?_
    rintro r w1 ⟨rfl, hb⟩
    have B1 := hid hb
    clear hb
    go_wp2_with fail
    refine (KT.out _).mono ?_
    rintro r w2 ⟨rfl, hw⟩
    obtain rfl := hw.symm
    go_wp2_with fail
    go_ret3
    exact ⟨_, _, rfl, TbIn.nil _ _, OwnR.nil _ _, B1.out⟩
  | true =>
    have e1 : dropE T t = 0 := by unfold dropE; rw [if_neg (by simpa using hv), ht]; rfl
    have e2 : dropV T t = Lk.dropT T t := by unfold dropV; rw [if_pos e1]
    have e3 : dropG T t = Lk.dropL T t := by unfold dropG; rw [if_pos e1]
    rw [e1, e2, e3]
    rw [ht] at KT
    have HG := hid (Lk.check_zero.1 hv)
    have KW := hid fun W i vh vq H Q h1 h2 l1 l2 => without_any W i vh vq H Q t h1 h2 l1 l2
    obtain ⟨i0, hi, hz0, hz1, hz2⟩ := info_parts item_info
    clear hv e1 e2 e3 ht
    go_enter Try.func25, Try.ntmps25
    go_wp2_with fail
    refine K1.out.mono ?_
    rintro r w1 ⟨rfl, hb⟩
    have B1 := hid hb
    clear hb
    go_wp2_with fail
    refine (KT.out _).mono ?_
    rintro r w2 ⟨rfl, hw⟩
    obtain rfl := hw.symm
    go_wp2_with fail
    go_loopw [8, 9, 22] (fun lv gv i wr => ∃ (k : Nat) (V G : Value), k ≤ T.length ∧ V = lv ∧ G = gv ∧ i = .int .i64 (k : Int) ∧ Hid (TbIn wr w.heap.size V (Lk.dropT (T.take k) t)) ∧ Hid (OwnInts wr w.heap.size G (Lk.dropL (T.take k) t)) ∧ Hid (Below w.heap.size w wr)) (fun _ _ i _ => T.length - (intOf i).toNat)
    case atStart => exact ⟨0, _, _, Nat.zero_le _, rfl, rfl, rfl, TbIn.nil _ _, OwnR.nil _ _, B1.out⟩
    case round =>
      clear B1
      obtain ⟨k, V, G, hk, rfl, rfl, rfl, hV, hGv, hb⟩ := hrel
      by_cases hlt : k < T.length
      · obtain ⟨x, hx⟩ : ∃ x, T[k]? = some x := ⟨_, List.getElem?_eq_getElem hlt⟩
        obtain ⟨b, o, vh, vq, rfl, d0, d1, d2, lh, lq⟩ := (H.out.below hb.out) k x hx
        have k0 : (0 : Int) ≤ (k : Int) := by omega
        have k1 : (k : Int) < (T.length : Int) := by omega
        have hr := (HG.out.it x (List.mem_of_getElem? hx)).2.2
        have l12h := hr.rh.len
        have l12q := hr.rq.len
        have HNV := hid (dropT_next (t := t) hx)
        have HNG := hid (dropL_next (t := t) hx)
        have HT1 := hid (to1_few hr t)
        have HTk : Hid ((Lk.dropL (T.take k) t).length ≤ 240) := by
          have := dropL_few (T := T.take k) (fun y hy => (HG.out.it y (List.mem_of_mem_take hy)).2.2) t
          have h20 := HG.out.len
          rw [List.length_take] at this
          show _ ≤ _
          omega
        have lh1 := hid (lh.below (bx wr (.cells #[.int .i64 x.i, vh, vq] 66)))
        have lq1 := hid (lq.below (bx wr (.cells #[.int .i64 x.i, vh, vq] 66)))
        obtain ⟨ah, ch, rfl, _⟩ := lh
        obtain ⟨aq, cq, rfl, _⟩ := lq
        have K2 := hid (KW.out _ x.i _ _ x.h x.q lh1.out lq1.out (by omega) (by omega))
        have SX : Hid (∀ W, Below (wr.alloc (.cells #[.int .i64 x.i, .slice ah x.h.length ch, .slice aq x.q.length cq] 66)).heap.size (wr.alloc (.cells #[.int .i64 x.i, .slice ah x.h.length ch, .slice aq x.q.length cq] 66)) W → Spot W wr.heap.size 0 66 #[.int .i64 x.i, .slice ah x.h.length ch, .slice aq x.q.length cq] (.int .i64 x.i) (.slice ah x.h.length ch) (.slice aq x.q.length cq)) := fun W hW => Spot.below ⟨heap_alloc_new wr _, rfl, rfl, rfl⟩ hW
        have HLs : Hid ((Lk.less x.h t).length + (Lk.less x.q t).length ≤ 2000) := by
          have h1 : (Lk.less x.h t).length ≤ x.h.length := List.length_filter_le _ _
          have h2 : (Lk.less x.q t).length ≤ x.q.length := List.length_filter_le _ _
          show _ ≤ _
          omega
        clear hx hr l12h l12q lh1 lq1
        go_wp2_with fail
        refine K2.out.mono ?_
        rintro r w3 ⟨vh3, vq3, rfl, o3, q3, hap3, b3⟩
        obtain ⟨B, hB⟩ : ∃ B, B = wr.heap.size := ⟨_, rfl⟩
        have s3 := SX.out w3 b3
        have o3 := o3.lower (base' := B + 1) (by rw [hB]; simp)
        have q3 := q3.lower (base' := B + 1) (by rw [hB]; simp)
        have b3 : Below wr.heap.size wr w3 := below_tr (bx _ _) b3
        have sz3 : B + 1 ≤ w3.heap.size := by have := s3.blk; have := lt_of_heap this; omega
        obtain ⟨a3, c3, e3, _⟩ := o3.at_
        obtain ⟨a3', c3', e3', _⟩ := q3.at_
        rw [← hB] at s3
        obtain ⟨y0, y1, y2, y3, y4⟩ := s3.cells
        simp only [Nat.zero_add] at y1 y2 y3 y4
        have y5 : w3.frozen? ⟨B, 0, none⟩ = false := by simp [World.frozen?, s3.blk]
        obtain ⟨w4, hw4⟩ : ∃ w4, w4 = ((w3.setCell ⟨B, 0, none⟩ (.int .i64 x.i)).setCell ⟨B, 1, none⟩ vh3).setCell ⟨B, 2, none⟩ vq3 := ⟨_, rfl⟩
        have S4 : Hid (∃ A, Spot w4 B 0 66 A (.int .i64 x.i) vh3 vq3) := ⟨_, by rw [hw4]; exact ((s3.put0 (.int .i64 x.i)).put1 vh3).put2 vq3⟩
        have kp : ∀ (v : Value) (L : List Lk.Lo), OwnLk w3 (B + 1) v L → OwnLk w4 (B + 1) v L := fun v L h => h.keep fun g hg => by
          have := (h.lt g hg).1
          rw [hw4, Below.heap_setCell _ ⟨B, 2, none⟩ _ _ (by show g ≠ B; omega), Below.heap_setCell _ ⟨B, 1, none⟩ _ _ (by show g ≠ B; omega), Below.heap_setCell _ ⟨B, 0, none⟩ _ _ (by show g ≠ B; omega)]
        have O4 := hid (kp _ _ o3)
        have Q4 := hid (kp _ _ q3)
        have B4 : Hid (Below wr.heap.size wr w4) := by
          show Below _ _ _
          rw [hw4]
          exact ((b3.setCell (p := ⟨B, 0, none⟩) (by rw [hB]; exact Nat.le_refl _) _).setCell (p := ⟨B, 1, none⟩) (by rw [hB]; exact Nat.le_refl _) _).setCell (p := ⟨B, 2, none⟩) (by rw [hB]; exact Nat.le_refl _) _
        have sz4 : Hid (B + 1 ≤ w4.heap.size) := by show _ ≤ _; rw [hw4]; simpa [World.setCell] using sz3
        have HW4 := hid hw4
        have HB := hid hB
        have HAP := hid hap3
        subst e3; subst e3'
        clear hw4 hap3 o3 q3 b3 s3 kp sz3 SX
        rw [← hB]
        clear hB
        go_wp2_with fail
        rw [← HW4.out]
        clear y0 y1 y2 y3 y4 y5 HW4
        obtain ⟨A4, s4⟩ := S4.out
        refine (wake_any w4 (B + 1) B 0 66 A4 x.i _ _ _ _ s4 O4.out Q4.out HAP.out (by decide) sz4.out (by have := HLs.out; omega)).mono ?_
        rintro r w5 ⟨vt, vh5, vq5, rfl, ot, hk5⟩
        have B5 : Hid (Below wr.heap.size wr w5) := B4.out.trans (hk5.out.go.below (by have := B4.out.size; exact this) (fun k hk => by have := HB.out; rcases hk with hk | hk <;> omega))
        have V5 := hid (hV.out.below B5.out)
        have G5 := hid (hGv.out.below B5.out)
        have OT := hid ot
        have hGlt : Hid (∀ g, G.ownBlock = some g → g < B) := fun g hg => by rw [HB.out]; exact (hGv.out.lt g hg).2
        have C5 := hid (below_tr hb.out B5.out)
        clear ot s4 S4 O4 Q4 HAP B4 hV hGv
        go_wp2_with (at_builtin; refine wpList_append_ints rfl _ _ rfl w.heap.size G _ rfl G5.out vt w4.heap.size _ rfl OT.out ?e1 C5.out.size ?_)
        case e1 => have := HT1.out; have := HTk.out; show _ + (Lk.to1 t x).length ≤ _; omega
        intro v6 w6 ho6 hg6
        have V6 := hid (V5.out.grownInts G5.out hg6)
        have G6 : Hid (OwnInts w6 w.heap.size v6 (Lk.dropL (T.take (k + 1)) t)) := by show OwnInts _ _ _ _; rw [HNG.out]; exact ho6
        have C6 : Hid (Below w.heap.size w w6) := C5.out.grown hg6 C5.out.size (fun g hg => (G5.out.lt g hg).1)
        obtain ⟨A5, s5⟩ := hk5.out.sp
        have S6 := hid (s5.grown hg6 (fun e => by have := hGlt.out _ e; omega))
        have O6 : Hid (OwnLk w6 (B + 1) vh5 (Lk.drop1 t x).h) := hk5.out.oh.keep fun g hg => hg6.block g (hk5.out.oh.lt g hg).2 (fun e => by have := hGlt.out _ e.symm; have := (hk5.out.oh.lt g hg).1; omega)
        have Q6 : Hid (LsIn w6 (B + 1) vq5 (Lk.drop1 t x).q) := hk5.out.lsIn.grown hg6 (fun b hb2 ⟨cu, e⟩ => by obtain ⟨c2, e2⟩ := ints_ty G5.out hb2; exact absurd (ty_ne e e2) (by decide))
        have HBw : Hid (w.heap.size ≤ B + 1) := by have := HB.out; have := hb.out.size; show _ ≤ _; omega
        clear ho6 hg6 s5 V5 G5 C5 B5 OT hk5 HNG HTk HT1
        obtain ⟨a6, c6, e6, _⟩ := O6.out.at_
        obtain ⟨a6', c6', e6', _⟩ := Q6.out
        obtain ⟨n6, hn6⟩ : ∃ n, n = (Lk.drop1 t x).h.length := ⟨_, rfl⟩
        obtain ⟨m6, hm6⟩ : ∃ n, n = (Lk.drop1 t x).q.length := ⟨_, rfl⟩
        rw [← hn6] at e6
        rw [← hm6] at e6'
        subst e6; subst e6'
        have HFu : Hid (Lk.full (Lk.drop1 t x) = decide (0 < n6)) := by
          show Lk.full _ = _
          unfold Lk.full
          rw [hn6]
          cases (Lk.drop1 t x).h <;> simp
        clear hn6 hm6
        obtain ⟨y0, y1, y2, y3, y4⟩ := S6.out.cells
        simp only [Nat.zero_add] at y1 y2 y3 y4
        by_cases hf : 0 < n6
        · have hf1 : (0 : Int) < (n6 : Int) := by omega
          have hf2 : decide ((0 : Int) < (n6 : Int)) = true := by simpa using hf
          have NV : Hid (Lk.dropT (T.take (k + 1)) t = Lk.dropT (T.take k) t ++ [Lk.drop1 t x]) := by show _ = _; rw [HNV.out, HFu.out, decide_eq_true hf, if_pos rfl]
          obtain ⟨P, hP1, hP2, hP3⟩ := V6.out.row
          have P8 : ∀ o, Hid (OwnIt (w6.alloc o) w.heap.size V P) := fun o => hP1.below (bx _ _)
          have HP3 := hid hP3
          have HP2 := hid hP2
          have hPl : Hid (P.length ≤ 20) := by
            show _ ≤ _
            rw [hP2]
            have h1 : (Lk.dropT (T.take k) t).length ≤ T.length := by
              unfold Lk.dropT
              refine Nat.le_trans (List.length_filter_le _ _) ?_
              rw [List.length_map, List.length_take]
              exact Nat.min_le_right _ _
            have := HG.out.len
            omega
          have YM : Hid (Means w6 w.heap.size ⟨x.i, a6, n6, c6, a6', m6, c6'⟩ (Lk.drop1 t x)) := ⟨rfl, O6.out.lsIn.lower HBw.out, Q6.out.lower HBw.out⟩
          clear hP1 hP2 hP3 HNV HFu hf
          go_wp2_with (at_builtin; refine wpList_append_own _ rfl _ _ 58 rfl w.heap.size 66 i0 (.agg #[.int .i64 0, .slice none 0 0, .slice none 0 0]) 3 56 Try.underlying58 hi hz0 hz1 hz2 rfl (by decide) _ _ _ rfl (P8 _).out ⟨w6.heap.size, 0, none⟩ 1 1 (ic ⟨x.i, a6, n6, c6, a6', m6, c6'⟩) rfl rfl ?c1 ?c2 ?c3 ?c4 ?c5 ?_)
          case c1 =>
            intro q u hu
            rw [Addr.add_mid]
            exact (cell_of_row _ _ _ _ _ _ (heap_alloc_new w6 _)).trans (by simpa [ic] using hu)
          case c2 => exact ic_one _
          case c3 => have := hPl.out; unfold maxLen; omega
          case c4 => have := hPl.out; omega
          case c5 => have := C6.out.size; simp; omega
          intro v7 w7 ho7 hg7 _
          have P7 : OwnIt w7 w.heap.size v7 (P ++ [⟨x.i, a6, n6, c6, a6', m6, c6'⟩]) := OwnIt.grows ho7
          have V7 : Hid (TbIn w7 w.heap.size v7 (Lk.dropT (T.take (k + 1)) t)) := by
            show TbIn _ _ _ _
            rw [NV.out]
            exact TbIn.snoc P7 HP2.out (fun j x y hx hy => ((HP3.out j x y hx hy).below (bx _ _)).grownRow (P8 _).out hg7) ((YM.out.below (bx _ _)).grownRow (P8 _).out hg7)
          have G7 : Hid (OwnInts w7 w.heap.size v6 (Lk.dropL (T.take (k + 1)) t)) := ints_grown (P8 _).out (G6.out.below (bx _ _)) hg7
          have C7 : Hid (Below w.heap.size w w7) := (below_tr C6.out (bx _ _)).grown hg7 (by have := C6.out.size; simp; omega) (fun g hg => ((P8 (.cells #[.int .i64 x.i, .slice a6 n6 c6, .slice a6' m6 c6'] 66)).out.lt g hg).1)
          clear ho7 hg7 P7 P8 V6 G6 C6 YM HP3 HP2 y0 y1 y2 y3 y4
          go_wp2_with fail
          go_roundw
          case rel => first
            | exact ⟨k + 1, v7, v6, by omega, rfl, rfl, by go_num, V7, G7, C7⟩
            | ((repeat apply Exists.intro); exact ⟨⟨k + 1, v7, v6, by omega, rfl, rfl, by go_num, V7, G7, C7⟩, rfl⟩)
          case measure => simp [intOf]; omega
        · have hf0 : n6 = 0 := by omega
          have NV : Hid (Lk.dropT (T.take (k + 1)) t = Lk.dropT (T.take k) t) := by show _ = _; rw [HNV.out, HFu.out, decide_eq_false hf, if_neg (by simp), List.append_nil]
          subst hf0
          clear HNV HFu hf
          go_wp2_with fail
          go_roundw
          case rel => first
            | exact ⟨k + 1, V, v6, by omega, rfl, rfl, by go_num, by rw [NV.out]; exact V6, G6, C6⟩
            | ((repeat apply Exists.intro); exact ⟨⟨k + 1, V, v6, by omega, rfl, rfl, by go_num, by rw [NV.out]; exact V6, G6, C6⟩, rfl⟩)
          case measure => simp [intOf]; omega
      · obtain rfl : k = T.length := by omega
        have j3 : decide ((T.length : Int) < (T.length : Int)) = false := by simp
        have hV2 : Hid (TbIn wr w.heap.size V (Lk.dropT T t)) := by have := hV.out; rwa [List.take_length] at this
        have hG2 : Hid (OwnInts wr w.heap.size G (Lk.dropL T t)) := by have := hGv.out; rwa [List.take_length] at this
        clear hV hGv
        go_wp2_with fail
        go_ret3
        exact ⟨_, _, rfl, hV2.out, hG2.out, hb.out⟩
end Go.Proofs.Ytjoaedkgjnchoan.PLock
