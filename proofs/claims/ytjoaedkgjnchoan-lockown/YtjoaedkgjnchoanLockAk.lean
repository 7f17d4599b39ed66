/- lock.Ask, walked: it answers what the plain words say: a table in rows of its own; nothing that was there has turned. Conditions: the table lies where its slice says; a length that an int holds. -/
import Derived.Test.YtjoaedkgjnchoanLockWi
import Derived.Test.YtjoaedkgjnchoanLockAsk
namespace Go.Proofs.Ytjoaedkgjnchoan.PLock
open Go Go.RowKit PPool
set_option maxRecDepth 100000

theorem TbOwn.spot {w : World} {base g n c : Nat} {P : List Rw} {T : List Lk.It} (h : TbOwn w base (.slice (some ⟨g, 0, none⟩) n c) P T) {k : Nat} {x : Rw} {y : Lk.It} (hx : P[k]? = some x) (hy : T[k]? = some y) : ∃ cur, Spot w g (k * 3) 66 cur (.int .i64 y.i) x.vh x.vq := by
  obtain ⟨cur, hh, h3, _, h1, h2, hg, h4⟩ := rown_block h.row
  obtain ⟨c0, c1, c2⟩ := h.row.cells hx
  have e := (h.it k x y hx hy).1
  refine ⟨cur, hh, ?_, ?_, ?_⟩
  · rw [← cell_of_row w g _ cur _ _ hh, c0, e]
  · rw [← cell_of_row w g _ cur _ _ hh, c1]; rfl
  · rw [← cell_of_row w g _ cur _ _ hh, c2]; rfl
theorem TbOwn.asked {w w' : World} {base g n c k : Nat} {P : List Rw} {T : List Lk.It} {x : Rw} {y z : Lk.It} {cur : Array Value} {vh vq : Value} (h : TbOwn w base (.slice (some ⟨g, 0, none⟩) n c) P T) (hx : P[k]? = some x) (_hy : T[k]? = some y) (hs : Spot w g (k * 3) 66 cur (.int .i64 y.i) x.vh x.vq)
    (hs' : Spot w' g (k * 3) 66 ((cur.setIfInBounds (k * 3 + 1) vh).setIfInBounds (k * 3 + 2) vq) (.int .i64 y.i) vh vq) (hh : OwnLk w' base vh z.h) (hq : OwnLk w' base vq z.q) (hi : z.i = y.i)
    (hg : Goes (fun b => b = g ∨ x.vh.ownBlock = some b ∨ x.vq.ownBlock = some b) w w' (fun _ => False)) : TbIn w' base (.slice (some ⟨g, 0, none⟩) n c) (T.set k z) := by
  obtain ⟨a1, c1, e1, _⟩ := hh.at_
  obtain ⟨a2, c2, e2, _⟩ := hq.at_
  subst e1; subst e2
  have hk := (List.getElem?_eq_some_iff.1 hx).1
  have hset := h.row.set k hk ⟨y.i, a1, z.h.length, c1, a2, z.q.length, c2⟩
  have hput := ((hs.put0 (.int .i64 y.i)).put1 (.slice a1 z.h.length c1)).put2 (.slice a2 z.q.length c2)
  rw [set_same hs.c0] at hput
  have hrow : OwnIt w' base (.slice (some ⟨g, 0, none⟩) n c) (P.set k ⟨y.i, a1, z.h.length, c1, a2, z.q.length, c2⟩) := hset.keep fun b hb => by
    have hb : g = b := Option.some.inj hb
    subst hb
    exact hs'.blk.trans hput.blk.symm
  refine ⟨_, hrow, by simp [h.len], fun j a b ha hb => ?_⟩
  by_cases e : k = j
  · subst e
    rw [List.getElem?_set_self (by exact hk)] at ha
    rw [List.getElem?_set_self (by rw [← h.len]; exact hk)] at hb
    cases ha; cases hb
    exact ⟨hi.symm, hh.lsIn, hq.lsIn⟩
  · rw [List.getElem?_set_ne e] at ha hb
    obtain ⟨q1, q2, q3⟩ := h.it j a b ha hb
    have hap : ∀ t, a.blk t → ¬ x.blk t := fun t ht hxt => by
      obtain ⟨hj, ej⟩ := List.getElem?_eq_some_iff.1 ha
      obtain ⟨hk', ek⟩ := List.getElem?_eq_some_iff.1 hx
      have hp := List.pairwise_iff_getElem.1 h.apart
      rcases Nat.lt_or_ge j k with hlt | hge
      · have := hp j k hj hk' hlt t
        rw [ej, ek] at this
        exact this ht hxt
      · have := hp k j hk' hj (by omega) t
        rw [ej, ek] at this
        exact this hxt ht
    have kp : ∀ (v : Value) (L : List Lk.Lo), (∀ t, v.ownBlock = some t → a.blk t) → OwnLk w base v L → OwnLk w' base v L := fun v L hv ho => ho.goes hg fun t ht hc => by
      rcases hc with hc | hc
      · subst hc; exact own_lock_items ho h.row ht rfl
      · exact hap t (hv t ht) hc
    exact ⟨q1, (kp _ _ (fun t ht => .inl ht) q2).lsIn, (kp _ _ (fun t ht => .inr ht) q3).lsIn⟩

def askE (T : List Lk.It) (t i m : Int) : Int := if Lk.check T ≠ 0 then Lk.check T else if (Lk.tx t && Lk.item i && Lk.mode m) = false then 1 else if Lk.inQ T t then 10 else 0
def askV (T : List Lk.It) (t i m : Int) : List Lk.It := if askE T t i m = 0 then Lk.askT T i ⟨t, m⟩ else []
def askO (T : List Lk.It) (t i m : Int) : Bool := if askE T t i m = 0 then Lk.askB T i ⟨t, m⟩ else false
theorem got_right {T : List Lk.It} (h : Lk.Good T) (i : Int) : (Lk.got T i).h.length ≤ 12 ∧ (Lk.got T i).q.length ≤ 12 := by
  unfold Lk.got
  cases ht : Lk.there T i with
  | true =>
    obtain ⟨x, hx, _⟩ := Lk.there_some ht
    rw [if_pos rfl, List.getElem!_eq_getElem?_getD, hx]
    have := (h.it x (List.mem_of_getElem? hx)).2.2
    exact ⟨this.rh.len, this.rq.len⟩
  | false => rw [if_neg (by simp)]; exact ⟨by simp, by simp⟩

set_option maxHeartbeats 4000000 in
theorem ask2_any (w : World) (a : Option Addr) (c : Nat) (T : List Lk.It) (t i m : Int) (h : TbAt w a T) (hl : T.length ≤ 9223372036854775807) :
    Calls Try.prog 22 #[.slice a T.length c, .int .i64 t, .int .i64 i, .int .i64 m] w fun e w' => ∃ v, e = .returned (.tuple #[v, .bool (askO T t i m), .int .i64 (askE T t i m)]) ∧ TbIn w' w.heap.size v (askV T t i m) ∧ Below w.heap.size w w' := by
  have H := hid h
  have K1 := hid (check_any w a c T h hl)
  have KT := hid fun W => isTx_any W t
  have KI := hid fun W => isItem_any W i
  have KM := hid fun W => isMode_any W m
  have KQ := hid fun W h => isInQueue_any W a c T t h hl
  clear h
  by_cases hv : Lk.check T = 0
  rotate_left
  · have e1 : askE T t i m = Lk.check T := by unfold askE; rw [if_pos hv]
    have e2 : askV T t i m = [] := by unfold askV; rw [e1, if_neg hv]
    have e3 : askO T t i m = false := by unfold askO; rw [e1, if_neg hv]
    rw [e1, e2, e3]
    generalize Lk.check T = y at *
    have hv0 : (y != 0) = true := by simpa using hv
    clear hv e1 e2 e3
    go_enter Try.func22, Try.ntmps22
    go_wp2_with fail
    refine K1.out.mono ?_
    rintro r w1 ⟨rfl, hb⟩
    have B1 := hid hb
    clear hb
    go_wp2_with fail
    go_ret3
    exact ⟨_, rfl, TbIn.nil _ _, B1.out⟩
  rw [hv] at K1
  have e0 : askE T t i m = if (Lk.tx t && Lk.item i && Lk.mode m) = false then 1 else if Lk.inQ T t then 10 else 0 := by unfold askE; rw [if_neg (by simpa using hv)]
  have bad : askE T t i m = 1 → askV T t i m = [] ∧ askO T t i m = false := fun e => ⟨by unfold askV; rw [e]; rfl, by unfold askO; rw [e]; rfl⟩
  have HG := hid (Lk.check_zero.1 hv)
  clear hv
  cases ht : Lk.tx t with
  | false =>
    have e1 : askE T t i m = 1 := by rw [e0, ht]; rfl
    rw [e1, (bad e1).1, (bad e1).2]
    rw [ht] at KT
    clear e0 e1 bad ht
    go_enter Try.func22, Try.ntmps22
    go_wp2_with fail
    refine K1.out.mono ?_
    rintro r w1 ⟨rfl, hb⟩
    have B1 := hid hb
    clear hb
    go_wp2_with fail
    refine (KT.out _).mono ?_
    rintro r w2 ⟨rfl, hw⟩
    obtain rfl := hw.symm
    go_wp2_with fail
    go_ret3
    exact ⟨_, rfl, TbIn.nil _ _, B1.out⟩
  | true =>
    rw [ht] at KT
    cases hi : Lk.item i with
    | false =>
      have e1 : askE T t i m = 1 := by rw [e0, ht, hi]; rfl
      rw [e1, (bad e1).1, (bad e1).2]
      rw [hi] at KI
      clear e0 e1 bad ht hi
      go_enter Try.func22, Try.ntmps22
      go_wp2_with fail
      refine K1.out.mono ?_
      rintro r w1 ⟨rfl, hb⟩
      have B1 := hid hb
      clear hb
      go_wp2_with fail
      refine (KT.out _).mono ?_
      rintro r w2 ⟨rfl, hw⟩
      obtain rfl := hw.symm
      go_wp2_with fail
      refine (KI.out _).mono ?_
      rintro r w2 ⟨rfl, hw⟩
      obtain rfl := hw.symm
      go_wp2_with fail
      go_ret3
      exact ⟨_, rfl, TbIn.nil _ _, B1.out⟩
    | true =>
      rw [hi] at KI
      cases hm : Lk.mode m with
      | false =>
        have e1 : askE T t i m = 1 := by rw [e0, ht, hi, hm]; rfl
        rw [e1, (bad e1).1, (bad e1).2]
        rw [hm] at KM
        clear e0 e1 bad ht hi hm
        go_enter Try.func22, Try.ntmps22
        go_wp2_with fail
        refine K1.out.mono ?_
        rintro r w1 ⟨rfl, hb⟩
        have B1 := hid hb
        clear hb
        go_wp2_with fail
        refine (KT.out _).mono ?_
        rintro r w2 ⟨rfl, hw⟩
        obtain rfl := hw.symm
        go_wp2_with fail
        refine (KI.out _).mono ?_
        rintro r w2 ⟨rfl, hw⟩
        obtain rfl := hw.symm
        go_wp2_with fail
        refine (KM.out _).mono ?_
        rintro r w2 ⟨rfl, hw⟩
        obtain rfl := hw.symm
        go_wp2_with fail
        go_ret3
        exact ⟨_, rfl, TbIn.nil _ _, B1.out⟩
      | true =>
        rw [hm] at KM
        cases hq : Lk.inQ T t with
        | true =>
          have e1 : askE T t i m = 10 := by rw [e0, ht, hi, hm, hq]; rfl
          have e2 : askV T t i m = [] := by unfold askV; rw [e1]; rfl
          have e3 : askO T t i m = false := by unfold askO; rw [e1]; rfl
          rw [e1, e2, e3]
          rw [hq] at KQ
          clear e0 e1 e2 e3 bad ht hi hm hq
          go_enter Try.func22, Try.ntmps22
          go_wp2_with fail
          refine K1.out.mono ?_
          rintro r w1 ⟨rfl, hb⟩
          have B1 := hid hb
          clear hb
          go_wp2_with fail
          refine (KT.out _).mono ?_
          rintro r w2 ⟨rfl, hw⟩
          obtain rfl := hw.symm
          go_wp2_with fail
          refine (KI.out _).mono ?_
          rintro r w2 ⟨rfl, hw⟩
          obtain rfl := hw.symm
          go_wp2_with fail
          refine (KM.out _).mono ?_
          rintro r w2 ⟨rfl, hw⟩
          obtain rfl := hw.symm
          go_wp2_with fail
          refine (KQ.out _ (H.out.below B1.out)).mono ?_
          rintro r w3 ⟨rfl, hb⟩
          have B3 := hid (below_tr B1.out hb)
          clear hb
          go_wp2_with fail
          go_ret3
          exact ⟨_, rfl, TbIn.nil _ _, B3.out⟩
        | false =>
          have e1 : askE T t i m = 0 := by rw [e0, ht, hi, hm, hq]; rfl
          have e2 : askV T t i m = (Lk.withI T i).set (Lk.at_ T i) (Lk.ask (Lk.got T i) ⟨t, m⟩) := by unfold askV; rw [if_pos e1]; rfl
          have e3 : askO T t i m = Lk.now (Lk.got T i) ⟨t, m⟩ := by unfold askO; rw [if_pos e1]; rfl
          rw [e1, e2, e3]
          rw [hq] at KQ
          have KW := hid fun W h => withItem_any W a c T i h HG.out
          have HGR := hid (got_right HG.out i)
          have HAT := hid (Lk.withI_at T i)
          generalize Lk.at_ T i = k at *
          generalize Lk.withI T i = T2 at *
          obtain ⟨gy, hgy⟩ : ∃ gy, gy = Lk.got T i := ⟨_, rfl⟩
          rw [← hgy] at HAT HGR ⊢
          clear e0 e1 e2 e3 bad ht hi hm hq hgy
          go_enter Try.func22, Try.ntmps22
          go_wp2_with fail
          refine K1.out.mono ?_
          rintro r w1 ⟨rfl, hb⟩
          have B1 := hid hb
          clear hb
          go_wp2_with fail
          refine (KT.out _).mono ?_
          rintro r w2 ⟨rfl, hw⟩
          obtain rfl := hw.symm
          go_wp2_with fail
          refine (KI.out _).mono ?_
          rintro r w2 ⟨rfl, hw⟩
          obtain rfl := hw.symm
          go_wp2_with fail
          refine (KM.out _).mono ?_
          rintro r w2 ⟨rfl, hw⟩
          obtain rfl := hw.symm
          go_wp2_with fail
          refine (KQ.out _ (H.out.below B1.out)).mono ?_
          rintro r w3 ⟨rfl, hb⟩
          have B3 := hid (below_tr B1.out hb)
          clear hb
          go_wp2_with fail
          refine (KW.out _ (H.out.below B3.out)).mono ?_
          rintro r w4 ⟨v, P, rfl, to4, hb4⟩
          have TO := hid to4
          have B4 := hid (below_tr B3.out hb4)
          have S34 : Hid (w.heap.size ≤ w3.heap.size ∧ w3.heap.size ≤ w4.heap.size) := ⟨B3.out.size, hb4.size⟩
          clear to4 hb4
          have hkP : k < P.length := by rw [TO.out.len]; exact (List.getElem?_eq_some_iff.1 HAT.out).1
          obtain ⟨x, hx⟩ : ∃ x, P[k]? = some x := ⟨_, List.getElem?_eq_getElem hkP⟩
          obtain ⟨g, cp, rfl, _⟩ := TO.out.row.some (by omega)
          obtain ⟨cur, sp⟩ := TO.out.spot hx HAT.out
          obtain ⟨_, ox1, ox2⟩ := TO.out.it k x gy hx HAT.out
          have hself := TO.out.self x (List.mem_of_getElem? hx)
          have k0 : (0 : Int) ≤ (k : Int) := by omega
          have k1 : (k : Int) < (P.length : Int) := by omega
          have HX := hid hx
          have SP := hid sp
          obtain ⟨n, hn⟩ : ∃ n, n = P.length := ⟨_, rfl⟩
          rw [← hn] at k1 TO ⊢
          have KA := hid (ask_any w4 w3.heap.size g (k * 3) 66 cur gy.i x.vh x.vq gy.h gy.q ⟨t, m⟩ sp ox1 ox2 hself (by decide) S34.out.2 (by have := HGR.out.1; omega) (by have := HGR.out.2; omega))
          clear hx sp ox1 ox2 hself hkP hn
          go_wp2_with fail
          refine KA.out.mono ?_
          rintro r w5 ⟨vh', vq', rfl, s5, o5, q5, g5⟩
          have T5 : Hid (TbIn w5 w.heap.size (.slice (some ⟨g, 0, none⟩) n cp) (T2.set k (Lk.ask gy ⟨t, m⟩))) := by
            refine (TO.out.asked HX.out HAT.out SP.out s5 (z := Lk.ask gy ⟨t, m⟩) o5 q5 ?_ g5).lower S34.out.1
            unfold Lk.ask
            split <;> rfl
          have B5 : Hid (Below w.heap.size w w5) := by
            refine below_goes B4.out g5 B4.out.size (fun b hb => ?_)
            obtain ⟨_, o1, o2⟩ := TO.out.it k x gy HX.out HAT.out
            rcases hb with hb | hb | hb
            · subst hb; exact Nat.le_trans S34.out.1 TO.out.row.ge.1
            · exact Nat.le_trans S34.out.1 (o1.lt b hb).1
            · exact Nat.le_trans S34.out.1 (o2.lt b hb).1
          clear s5 o5 q5 g5 KA TO B4
          go_wp2_with fail
          go_ret3
          exact ⟨_, rfl, T5.out, B5.out⟩
end Go.Proofs.Ytjoaedkgjnchoan.PLock
