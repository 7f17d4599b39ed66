/- lock.isInQueue and placeFor, walked: each answers what the plain words say, and nothing that was there has turned. Conditions: the locks lie where their slices say; lengths that an int holds. -/
import Derived.Test.YtjoaedkgjnchoanLockTab
import Derived.Test.YtjoaedkgjnchoanLockPl
namespace Go.Proofs.Ytjoaedkgjnchoan.PLock
open Go Go.RowKit PPool
set_option maxRecDepth 100000

theorem inQ_next {T : List Lk.It} {k : Nat} {x : Lk.It} {t : Int} (hx : T[k]? = some x) : Lk.inQ (T.take (k + 1)) t = (Lk.inQ (T.take k) t || Lk.has x.q t) := by
  obtain ⟨h1, h2⟩ := List.getElem?_eq_some_iff.1 hx
  unfold Lk.inQ
  rw [List.take_succ_eq_append_getElem h1, h2, List.any_append, List.any_cons, List.any_nil, Bool.or_false]
theorem inQ_of {T : List Lk.It} {k : Nat} {x : Lk.It} {t : Int} (hx : T[k]? = some x) (h : Lk.has x.q t = true) : Lk.inQ T t = true := List.any_eq_true.2 ⟨x, List.mem_of_getElem? hx, h⟩

set_option maxHeartbeats 1000000 in
theorem isInQueue_any (w : World) (a : Option Addr) (c : Nat) (T : List Lk.It) (t : Int) (h : TbAt w a T) (hl : T.length ≤ 9223372036854775807) :
    Calls Try.prog 49 #[.slice a T.length c, .int .i64 t] w fun e w' => e = .returned (.bool (Lk.inQ T t)) ∧ Below w.heap.size w w' := by
  obtain ⟨Y, hY⟩ : ∃ Y, Y = Lk.inQ T t := ⟨_, rfl⟩
  rw [← hY]
  have HY := hid hY
  have H := hid h
  have KP := hid fun W a c L h hl => placeIn_any W a c L t h hl
  clear hY h
  go_enter Try.func49, Try.ntmps49
  go_wp2_with fail
  go_loopw [9] (fun i wr => ∃ k : Nat, k ≤ T.length ∧ i = .int .i64 (k : Int) ∧ Hid (Lk.inQ (T.take k) t = false) ∧ Hid (Below w.heap.size w wr)) (fun i _ => T.length - (intOf i).toNat)
  case atStart => exact ⟨0, Nat.zero_le _, rfl, rfl, Below.refl _ _⟩
  case round =>
    obtain ⟨k, hk, rfl, hO, hb⟩ := hrel
    by_cases hlt : k < T.length
    · obtain ⟨x, hx⟩ : ∃ x, T[k]? = some x := ⟨_, List.getElem?_eq_getElem hlt⟩
      obtain ⟨b, o, vh, vq, rfl, d0, d1, d2, lh, lq⟩ := (H.out.below hb.out) k x hx
      have k0 : (0 : Int) ≤ (k : Int) := by omega
      have k1 : (k : Int) < (T.length : Int) := by omega
      obtain ⟨ah, ch, rfl, _⟩ := lh
      obtain ⟨aq, cq, rfl, q1, q2, q3, _⟩ := lq
      have B3 : Hid (Below w.heap.size w (wr.alloc (.cells #[.int .i64 x.i, .slice ah x.h.length ch, .slice aq x.q.length cq] 66))) := below_tr hb.out (bx _ _)
      have K1 := hid (KP.out _ aq cq x.q (q1.below (bx wr (.cells #[.int .i64 x.i, .slice ah x.h.length ch, .slice aq x.q.length cq] 66))) (by unfold maxLen at q3; omega))
      have hp := plI_has x.q t
      have HT : Hid (Lk.has x.q t = true → Y = true) := fun h => by rw [HY.out, inQ_of hx h]
      have HF : Hid (Lk.has x.q t = false → Lk.inQ (T.take (k + 1)) t = false) := fun h => by rw [inQ_next hx, hO.out, h]; rfl
      clear hx hO hb q1
      generalize Lk.plI x.q t = p at *
      generalize Lk.has x.q t = g at *
      generalize x.i = xi at *
      generalize x.h.length = nh at *
      generalize x.q.length = nq at *
      cases g with
      | true =>
        have HT2 := hid (HT.out rfl)
        clear HF HT
        go_wp2_with fail
        refine K1.out.mono ?_
        rintro r w2 ⟨rfl, hb⟩
        have B4 := hid (below_tr B3.out hb)
        clear hb
        go_wp2_with fail
        go_ret
        exact ⟨by rw [HT2.out]; rfl, B4.out⟩
      | false =>
        have HF2 := hid (HF.out rfl)
        clear HT HF
        go_wp2_with fail
        refine K1.out.mono ?_
        rintro r w2 ⟨rfl, hb⟩
        have B4 := hid (below_tr B3.out hb)
        clear hb
        go_wp2_with fail
        go_roundw
        case rel => exact ⟨k + 1, by omega, by go_num, HF2, B4⟩
        case measure => simp [intOf]; omega
    · obtain rfl : k = T.length := by omega
      have j3 : decide ((T.length : Int) < (T.length : Int)) = false := by simp
      have HK : Hid (Y = false) := by have := hO.out; rw [List.take_length] at this; exact HY.out.trans this
      clear hO HY
      go_wp2_with fail
      go_ret
      exact ⟨by rw [HK.out]; rfl, hb.out⟩

theorem front_at {H Q : List Lk.Lo} {k : Nat} {q : Lk.Lo} (hq : Q[k]? = some q) : Lk.front H (Q.drop k) = if Lk.has H q.x then Lk.front H (Q.drop (k + 1)) + 1 else 0 := by
  rw [drop_of hq]
  unfold Lk.front
  cases h : Lk.has H q.x with
  | true => rw [List.takeWhile_cons_of_pos (by exact h), if_pos rfl]; rfl
  | false => rw [List.takeWhile_cons_of_neg (by rw [h]; simp), if_neg (by simp)]; rfl

set_option maxHeartbeats 2000000 in
theorem placeFor_any (w : World) (i : Int) (ah aq : Option Addr) (ch cq : Nat) (H Q : List Lk.Lo) (t : Int) (hH : LkAt w ah H) (hlH : H.length ≤ 9223372036854775807) (hQ : LkAt w aq Q) (hlQ : Q.length ≤ 2000) :
    Calls Try.prog 72 #[.agg #[.int .i64 i, .slice ah H.length ch, .slice aq Q.length cq], .int .i64 t] w fun e w' => e = .returned (.int .i64 (Lk.spot H Q t : Int)) ∧ Below w.heap.size w w' := by
  obtain ⟨Y, hY⟩ : ∃ Y, Y = Lk.spot H Q t := ⟨_, rfl⟩
  rw [← hY]
  unfold Lk.spot at hY
  have KH := hid fun W hW t => holds_any W (.int .i64 i) ah ch H (.slice aq Q.length cq) t (hH.below hW) hlH
  have B0 : ∀ T, Hid (Below w.heap.size w (w.alloc (.cells #[.int .i64 i, .slice ah H.length ch, .slice aq Q.length cq] T))) := fun T => bx _ _
  have K1 := hid fun W hW => KH.out W hW t
  have HQ := hid hQ
  cases hh : Lk.has H t with
  | false =>
    rw [hh] at hY
    have HY : Hid (Y = Q.length) := hY
    rw [hh] at K1
    clear hY hH hQ hh
    go_enter Try.func72, Try.ntmps72
    go_wp2_with fail
    refine (K1.out _ (B0 _).out).mono ?_
    rintro r w1 ⟨rfl, hb⟩
    obtain ⟨c0, c1, c2⟩ := ibox hb
    have B1 := hid (below_tr (B0 _).out hb)
    clear hb
    go_wp2_with fail
    go_ret
    exact ⟨by rw [HY.out]; rfl, B1.out⟩
  | true =>
    rw [hh] at hY
    have HY : Hid (Y = Lk.front H Q) := hY
    rw [hh] at K1
    obtain ⟨n, hn⟩ : ∃ n, n = Q.length := ⟨_, rfl⟩
    have HN := hid hn
    have n2 : (n : Int) ≤ 2000 := by omega
    rw [← hn] at B0 KH K1 ⊢
    clear hY hH hQ hh hlQ hlH hn
    go_enter Try.func72, Try.ntmps72
    go_wp2_with fail
    refine (K1.out _ (B0 _).out).mono ?_
    rintro r w1 ⟨rfl, hb⟩
    have C1 : Hid (∀ W, Below w1.heap.size w1 W → _) := fun W hW => ibox (below_tr hb hW)
    have B1 := hid (below_tr (B0 _).out hb)
    obtain ⟨c0, c1, c2⟩ := C1.out _ (Below.refl _ _)
    clear hb K1
    go_wp2_with fail
    go_loopw [5] (fun u wr => ∃ k : Nat, k ≤ n ∧ u = .int .i64 (k : Int) ∧ Hid (Y = k + Lk.front H (Q.drop k)) ∧ Hid (Below w1.heap.size w1 wr)) (fun u _ => n - (intOf u).toNat)
    case atStart => exact ⟨0, Nat.zero_le _, rfl, by show _ = _; rw [HY.out]; simp, Below.refl _ _⟩
    case round =>
      clear c0 c1 c2
      obtain ⟨k, hk, rfl, hO, hb⟩ := hrel
      obtain ⟨c0, c1, c2⟩ := C1.out _ hb.out
      by_cases hlt : k < n
      · obtain ⟨q, hq⟩ : ∃ q, Q[k]? = some q := ⟨_, List.getElem?_eq_getElem (by have := HN.out; omega)⟩
        obtain ⟨b, o, rfl, d1, d2⟩ := (HQ.out.below (below_tr B1.out hb.out)) k q hq
        have k0 : (0 : Int) ≤ (k : Int) := by omega
        have k1 : (k : Int) < (n : Int) := by omega
        have HF := hid (front_at (H := H) hq)
        have K2 := hid (KH.out wr.drew ((below_tr B1.out hb.out).drew) q.x)
        have SB : Hid (∀ W, Below wr.heap.size wr W → W.cell? ⟨w.heap.size, 0, none⟩ = some (.int .i64 i) ∧ W.cell? ⟨w.heap.size, 1, none⟩ = some (.slice ah H.length ch) ∧ W.cell? ⟨w.heap.size, 2, none⟩ = some (.slice (some ⟨b, o, none⟩) n cq) ∧ W.cell? ⟨b, o + k * 2, none⟩ = some (.int .i64 q.x)) := fun W hW => ⟨keep1 hW c0, keep1 hW c1, keep1 hW c2, keep1 hW d1⟩
        clear hq
        generalize q.x = qx at *
        cases hg : Lk.has H qx with
        | true =>
          have NO : Hid (Y = k + 1 + Lk.front H (Q.drop (k + 1))) := by have := hO.out; rw [HF.out, if_pos hg] at this; show _ = _; omega
          rw [hg] at K2
          clear HF hO hg
          go_wp2_with fail
          go_region_held3 (fun W => W.cell? ⟨w.heap.size, 0, none⟩ = some (.int .i64 i) ∧ W.cell? ⟨w.heap.size, 1, none⟩ = some (.slice ah H.length ch) ∧ W.cell? ⟨w.heap.size, 2, none⟩ = some (.slice (some ⟨b, o, none⟩) n cq) ∧ W.cell? ⟨b, o + k * 2, none⟩ = some (.int .i64 qx)) ((refine SB.out _ ?_; first | exact B4.out | repeat (first | exact Below.refl _ _ | refine Below.drew ?_)))
            ((go_at_call 69; refine (K2.out).mono ?_; rintro r w4 ⟨rfl, hb4⟩; have B4 : Hid (Below wr.heap.size wr w4) := below_tr (Below.refl _ _).drew hb4; clear hb4))
          have B5 := hid (below_tr hb.out B4.out)
          clear c0 c1 c2 d1 d2 B4 hb SB K2
          go_wp2_with fail
          go_roundw
          case rel => exact ⟨k + 1, by omega, by go_num, NO, B5⟩
          case measure => simp [intOf]; omega
        | false =>
          have NO : Hid (Y = k) := by have := hO.out; rw [HF.out, if_neg (by rw [hg]; simp)] at this; show _ = _; omega
          rw [hg] at K2
          clear HF hO hg HY
          go_wp2_with fail
          go_region_held3 (fun W => W.cell? ⟨w.heap.size, 0, none⟩ = some (.int .i64 i) ∧ W.cell? ⟨w.heap.size, 1, none⟩ = some (.slice ah H.length ch) ∧ W.cell? ⟨w.heap.size, 2, none⟩ = some (.slice (some ⟨b, o, none⟩) n cq) ∧ W.cell? ⟨b, o + k * 2, none⟩ = some (.int .i64 qx)) ((refine SB.out _ ?_; first | exact B4.out | repeat (first | exact Below.refl _ _ | refine Below.drew ?_)))
            ((go_at_call 69; refine (K2.out).mono ?_; rintro r w4 ⟨rfl, hb4⟩; have B4 : Hid (Below wr.heap.size wr w4) := below_tr (Below.refl _ _).drew hb4; clear hb4))
          have B5 := hid (below_tr B1.out (below_tr hb.out B4.out))
          clear c0 c1 c2 d1 d2 B4 hb SB K2
          go_wp2_with fail
          go_ret
          exact ⟨by rw [NO.out]; rfl, B5.out⟩
      · obtain rfl : k = n := by omega
        have j3 : decide ((k : Int) < (k : Int)) = false := by simp
        have NO : Hid (Y = k) := by
          have := hO.out
          rw [HN.out, List.drop_length] at this
          show _ = _
          rw [HN.out]
          simpa [Lk.front] using this
        have B5 := hid (below_tr B1.out hb.out)
        clear hO HY
        go_wp2_with fail
        go_quiet (fail)
        go_wp2_with fail
        go_ret
        exact ⟨by rw [NO.out]; rfl, below_drewN B5.out _⟩
end Go.Proofs.Ytjoaedkgjnchoan.PLock
