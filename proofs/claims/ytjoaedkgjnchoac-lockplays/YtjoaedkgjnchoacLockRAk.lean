/- quirref.AskLock, walked: of a right table it answers what the plain words say: a table of its own; nothing that was there has turned. Conditions: a right table that lies where its slice says, a mode. -/
import Derived.Test.YtjoaedkgjnchoacLockRTb
import Derived.Test.YtjoaedkgjnchoacLockSpt
namespace Go.Proofs.Ytjoaedkgjnchoac.PLock
open Go Go.RowKit PPool
set_option maxRecDepth 100000

/-- A table that lies where its slice says. -/
def TbV (w : World) (v : Value) (T : List Lk.It) : Prop := ∃ a c, v = .slice a T.length c ∧ TbAt w a T ∧ T.length ≤ c ∧ c ≤ maxLen
theorem TbV.nil (w : World) : TbV w (.slice none 0 0) [] := ⟨none, 0, rfl, TbAt.nil _ _, Nat.le_refl _, Nat.zero_le _⟩
theorem TbV.below {w w' : World} {v : Value} {T : List Lk.It} (h : TbV w v T) (hb : Below w.heap.size w w') : TbV w' v T := by
  obtain ⟨a, c, e, h1, h2⟩ := h
  exact ⟨a, c, e, h1.below hb, h2⟩
def raskE (T : List Lk.It) (t : Int) : Int := if Lk.inQ T t then 10 else 0
def raskV (T : List Lk.It) (t i m : Int) : List Lk.It := if Lk.inQ T t then [] else Lk.askT T i ⟨t, m⟩
def raskO (T : List Lk.It) (t i m : Int) : Bool := if Lk.inQ T t then false else Lk.askB T i ⟨t, m⟩

/-- What is left to do: the table as far as it is made, whether the item has been met, whether it was given. -/
def toAsk (i : Int) (l : Lk.Lo) (p ok : Bool) (L r : List Lk.It) : List Lk.It × Bool := if p then (L ++ r, ok) else (L ++ (Lk.askR i l r).1, (Lk.askR i l r).2)
theorem toAsk_p (i : Int) (l : Lk.Lo) (ok : Bool) (L : List Lk.It) (x : Lk.It) (r : List Lk.It) : toAsk i l true ok L (x :: r) = toAsk i l true ok (L ++ [x]) r := by simp [toAsk]
theorem toAsk_lt {i : Int} {l : Lk.Lo} {ok : Bool} {L : List Lk.It} {x : Lk.It} {r : List Lk.It} (h : x.i < i) : toAsk i l false ok L (x :: r) = toAsk i l false ok (L ++ [x]) r := by
  simp [toAsk, Lk.askR, h]
theorem toAsk_eq {i : Int} {l : Lk.Lo} {ok : Bool} {L : List Lk.It} {x : Lk.It} {r : List Lk.It} (h : x.i = i) : toAsk i l false ok L (x :: r) = toAsk i l true (Lk.now x l) (L ++ [Lk.ask x l]) r := by
  simp [toAsk, Lk.askR, h]
theorem toAsk_gt {i : Int} {l : Lk.Lo} {ok : Bool} {L : List Lk.It} {x : Lk.It} {r : List Lk.It} (h : i < x.i) : toAsk i l false ok L (x :: r) = toAsk i l true true (L ++ [⟨i, [l], []⟩] ++ [x]) r := by
  simp [toAsk, Lk.askR, show ¬ x.i < i by omega, show ¬ x.i = i by omega]
theorem toAsk_nil (i : Int) (l : Lk.Lo) (ok : Bool) (L : List Lk.It) : toAsk i l false ok L [] = (L ++ [⟨i, [l], []⟩], true) := by simp [toAsk, Lk.askR]

theorem one_lsIn (W : World) (base : Nat) (t y : Int) (hb : base ≤ W.heap.size) : LsIn (W.alloc (.cells #[.int .i64 t, .int .i64 y] 65)) base (.slice (some ⟨W.heap.size, 0, none⟩) 1 1) [⟨t, y⟩] :=
  ⟨_, 1, rfl, one_at W t y, Nat.le_refl _, by unfold maxLen; omega, (fun e => by cases e), fun q hq => by cases hq; exact ⟨hb, _, heap_alloc_new W _⟩⟩
theorem nil_ls (w : World) : LsAt w (.slice none 0 0) [] := LsAt.nil w

theorem means_one {w W : World} {o o' : Obj} {i t m : Int} (hb : w.heap.size ≤ W.heap.size) : MeansW w (((W.alloc o).alloc (.cells #[.int .i64 t, .int .i64 m] 65)).alloc o') ⟨i, some ⟨W.heap.size + 1, 0, none⟩, 1, 1, none, 0, 0⟩ ⟨i, [⟨t, m⟩], []⟩ := by
  refine ⟨rfl, .inr ?_, .inl (nil_ls w)⟩
  have := (one_lsIn (W.alloc o) w.heap.size t m (by rw [World.size_alloc]; omega)).below (bx _ o')
  rwa [World.size_alloc] at this
theorem means_one0 {w W : World} {o' : Obj} {i t m : Int} (hb : w.heap.size ≤ W.heap.size) : MeansW w ((W.alloc (.cells #[.int .i64 t, .int .i64 m] 65)).alloc o') ⟨i, some ⟨W.heap.size, 0, none⟩, 1, 1, none, 0, 0⟩ ⟨i, [⟨t, m⟩], []⟩ :=
  ⟨rfl, .inr ((one_lsIn W w.heap.size t m hb).below (bx _ o')), .inl (nil_ls w)⟩

set_option maxHeartbeats 8000000 in
theorem rask_any (w : World) (a : Option Addr) (c : Nat) (T : List Lk.It) (t i m : Int) (h : TbAt w a T) (hg : Lk.Good T) (hm : Lk.mode m = true) :
    Calls Try.prog 20 #[.slice a T.length c, .int .i64 t, .int .i64 i, .int .i64 m] w fun e w' => ∃ v, e = .returned (.tuple #[v, .bool (raskO T t i m), .int .i64 (raskE T t)]) ∧ TbV w' v (raskV T t i m) ∧ Below w.heap.size w w' := by
  have H := hid h
  have HG := hid hg
  have l20 := hg.len
  have HE : Hid (raskE T t = if Lk.inQ T t then 10 else 0) := rfl
  have HV : Hid (raskV T t i m = if Lk.inQ T t then [] else Lk.askT T i ⟨t, m⟩) := rfl
  have HO : Hid (raskO T t i m = if Lk.inQ T t then false else Lk.askB T i ⟨t, m⟩) := rfl
  have HR := hid (Lk.askT_front T i ⟨t, m⟩)
  have HM := hid hm
  have KH := hid fun W a c L h hl => rholds_any W a c L t h hl
  obtain ⟨E, hE⟩ : ∃ E, E = raskE T t := ⟨_, rfl⟩
  obtain ⟨V, hV⟩ : ∃ V, V = raskV T t i m := ⟨_, rfl⟩
  obtain ⟨O, hO⟩ : ∃ O, O = raskO T t i m := ⟨_, rfl⟩
  rw [← hE] at HE ⊢
  rw [← hV] at HV ⊢
  rw [← hO] at HO ⊢
  clear hE hV hO h hg hm
  have l20' : (T.length : Int) ≤ 20 := by omega
  go_enter Try.func20, Try.ntmps20
  go_wp2_with fail
  go_loopw [21] (fun ix wr => ∃ k : Nat, k ≤ T.length ∧ ix = .int .i64 (k : Int) ∧ Hid (Lk.inQ (T.take k) t = false) ∧ Hid (Below w.heap.size w wr)) (fun ix _ => T.length - (intOf ix).toNat)
  case atStart => exact ⟨0, Nat.zero_le _, rfl, rfl, Below.refl _ _⟩
  case round =>
    obtain ⟨k, hk, rfl, hQ, hb⟩ := hrel
    by_cases hlt : k < T.length
    · obtain ⟨x, hx⟩ : ∃ x, T[k]? = some x := ⟨_, List.getElem?_eq_getElem hlt⟩
      obtain ⟨b, o, vh, vq, rfl, d0, d1, d2, lh, lq⟩ := (H.out.below hb.out) k x hx
      have k0 : (0 : Int) ≤ (k : Int) := by omega
      have k1 : (k : Int) < (T.length : Int) := by omega
      obtain ⟨ah, ch, rfl, _⟩ := lh
      obtain ⟨aq, cq, rfl, q1, q2, q3, _⟩ := lq
      have B3 : Hid (Below w.heap.size w (wr.alloc (.cells #[.int .i64 x.i, .slice ah x.h.length ch, .slice aq x.q.length cq] 57))) := below_tr hb.out (bx _ _)
      have K1 := hid (KH.out _ aq cq x.q (q1.below (bx wr (.cells #[.int .i64 x.i, .slice ah x.h.length ch, .slice aq x.q.length cq] 57))) (by unfold maxLen at q3; omega))
      have hp := Lk.md_pos (HG.out.it x (List.mem_of_getElem? hx)).2.2.rq t
      have HT : Hid (Lk.has x.q t = true → Lk.inQ T t = true) := fun h => inQ_of hx h
      have HF : Hid (Lk.has x.q t = false → Lk.inQ (T.take (k + 1)) t = false) := fun h => by rw [inQ_next hx, hQ.out, h]; rfl
      clear hx hQ hb q1
      generalize Lk.md x.q t = p at *
      generalize Lk.has x.q t = g at *
      generalize x.i = xi at *
      generalize x.h.length = nh at *
      generalize x.q.length = nq at *
      cases g with
      | true =>
        have HT2 := hid (HT.out rfl)
        have p1 : 0 < p := by simpa using hp
        have HE2 : Hid (E = 10) := by have := HE.out; rw [if_pos HT2.out] at this; exact this
        have HV2 : Hid (V = []) := by have := HV.out; rw [if_pos HT2.out] at this; exact this
        have HO2 : Hid (O = false) := by have := HO.out; rw [if_pos HT2.out] at this; exact this
        clear HF HT HE HV HO
        go_wp2_with fail
        refine K1.out.mono ?_
        rintro r w2 ⟨rfl, hb⟩
        have B4 := hid (below_tr B3.out hb)
        clear hb
        go_wp2_with fail
        go_ret3
        exact ⟨.slice none 0 0, by rw [HE2.out, HO2.out]; rfl, by rw [HV2.out]; exact TbV.nil _, B4.out⟩
      | false =>
        have HF2 := hid (HF.out rfl)
        have p1 : ¬ 0 < p := by simpa using hp
        clear HT HF
        go_wp2_with fail
        refine K1.out.mono ?_
        rintro r w2 ⟨rfl, hb⟩
        have B4 := hid (below_tr B3.out hb)
        clear hb
        go_wp2_with fail
        go_roundw
        case rel => exact ⟨k + 1, by omega, by go_num, HF2, B4⟩
        case measure => simp [intOf]; omega
    · obtain rfl : k = T.length := by omega
      have j3 : decide ((T.length : Int) < (T.length : Int)) = false := by simp
      have HK : Hid (Lk.inQ T t = false) := by have := hQ.out; rwa [List.take_length] at this
      have HE2 : Hid (E = 0) := by have := HE.out; rw [HK.out] at this; exact this
      have HV2 : Hid (V = Lk.askT T i ⟨t, m⟩) := by have := HV.out; rw [HK.out] at this; exact this
      have HO2 : Hid (O = Lk.askB T i ⟨t, m⟩) := by have := HO.out; rw [HK.out] at this; exact this
      have HR2 : Hid (toAsk i ⟨t, m⟩ false false [] T = (V, O)) := by show _ = _; rw [HV2.out, HO2.out, ← HR.out]; simp [toAsk]
      clear hQ HE HV HO HK HV2 HO2 HR KH
      obtain ⟨W7, hW7⟩ : ∃ W7, W7 = wr.alloc (.cells #[.int .i64 t, .int .i64 m] 65) := ⟨_, rfl⟩
      have B7 : Hid (Below w.heap.size w W7) := by show Below _ _ _; rw [hW7]; exact below_tr hb.out (bx _ _)
      obtain ⟨B, hB⟩ : ∃ B, B = wr.heap.size := ⟨_, rfl⟩
      have C7 : Hid (∀ W, Below W7.heap.size W7 W → W.cell? ⟨B, 0, none⟩ = some (.int .i64 t) ∧ W.cell? ⟨B, 1, none⟩ = some (.int .i64 m)) := fun W hW => by
        rw [hB]; rw [hW7] at hW; exact box2 hW
      have T7 := hid (H.out.below B7.out)
      have HW7 := hid hW7
      clear hW7 hb
      go_wp2_with fail
      rw [← HW7.out, ← hB]
      clear HW7 hB
      go_loopw [14, 15, 16, 36] (fun ov pv kv ix wr => ∃ (k : Nat) (p ok : Bool) (L : List Lk.It) (v : Value), k ≤ T.length ∧ ix = .int .i64 (k : Int) ∧ ov = v ∧ pv = .bool p ∧ kv = .bool ok ∧ Hid (toAsk i ⟨t, m⟩ p ok L (T.drop k) = (V, O)) ∧ Hid (L.length ≤ k + (if p then 1 else 0)) ∧ Hid (TbW W7 wr v L)) (fun _ _ _ ix _ => T.length - (intOf ix).toNat)
      case atStart => exact ⟨0, false, false, [], _, Nat.zero_le _, rfl, rfl, rfl, rfl, HR2, Nat.zero_le _, TbW.nil (Below.refl _ _)⟩
      case round =>
        clear HR2
        obtain ⟨k, p, ok, L, v, hk, rfl, rfl, rfl, rfl, hR, hL, hT⟩ := hrel
        by_cases hlt : k < T.length
        · obtain ⟨x, hx⟩ : ∃ x, T[k]? = some x := ⟨_, List.getElem?_eq_getElem hlt⟩
          obtain ⟨b, o, vh, vq, rfl, d0, d1, d2, lh, lq⟩ := T7.out k x hx
          have k0 : (0 : Int) ≤ (k : Int) := by omega
          have k1 : (k : Int) < (T.length : Int) := by omega
          have d0 := keep1 hT.out.bel d0
          have d1 := keep1 hT.out.bel d1
          have d2 := keep1 hT.out.bel d2
          rw [drop_of hx] at hR
          have RI := hid (HG.out.it x (List.mem_of_getElem? hx)).2.2
          have LH := hid lh
          have LQ := hid lq
          obtain ⟨ah, ch, rfl, _⟩ := lh
          obtain ⟨aq, cq, rfl, _⟩ := lq
          obtain ⟨xi, hxi⟩ : ∃ xi, xi = x.i := ⟨_, rfl⟩
          rw [← hxi] at d0
          have HXI : Hid (xi = x.i) := hxi
          clear hx hxi
          generalize hnh : x.h.length = nh at *
          generalize hnq : x.q.length = nq at *
          have HNH := hid hnh
          have HNQ := hid hnq
          clear hnh hnq
          obtain ⟨c0, c1⟩ := C7.out _ hT.out.bel
          have e0 : ∀ o, (wr.alloc o).cell? ⟨B, 0, none⟩ = some (.int .i64 t) := fun o => keep1 (bx _ _) c0
          have e1 : ∀ o, (wr.alloc o).cell? ⟨B, 1, none⟩ = some (.int .i64 m) := fun o => keep1 (bx _ _) c1
          have hLb : L.length ≤ k + 1 := by have h := hL.out; cases p <;> simp at h <;> omega
          cases p with
          | true =>
            have NR : Hid (toAsk i ⟨t, m⟩ true ok (L ++ [x]) (T.drop (k + 1)) = (V, O)) := (toAsk_p i ⟨t, m⟩ ok L x (T.drop (k + 1))).symm.trans hR.out
            have NL : Hid ((L ++ [x]).length ≤ k + 1 + (if true then 1 else 0)) := by show _ ≤ _; simp; omega
            clear hR
            go_wp2_with (at_builtin; refine wpList_app1_tb rfl _ _ rfl _ L rfl (hT.out.below (below_tr (bx _ _) (bx _ _))) (wr.heap.size + 1) ⟨xi, ah, nh, ch, aq, nq, cq⟩ x rfl (rone2 _ _ ⟨xi, ah, nh, ch, aq, nq, cq⟩) ⟨HXI.out, .inl LH.out, .inl LQ.out⟩ (by omega) ?_)
            intro a9 n9 c9 w9 ht9 _
            have hT9 := hid ht9
            clear ht9 hT d0 d1 d2
            go_wp2_with fail
            go_roundw
            case rel => exact ⟨k + 1, true, ok, L ++ [x], _, by omega, by go_num, rfl, rfl, rfl, NR, NL, hT9⟩
            case measure => simp [intOf]; omega
          | false =>
            have hL0 : L.length ≤ k := by have := hL.out; rw [if_neg (by simp)] at this; exact this
            by_cases hlt2 : xi < i
            · have g1 : decide (xi ≥ i) = false := by simp; omega
              have g2 : ¬ i ≤ xi := by omega
              have NR : Hid (toAsk i ⟨t, m⟩ false ok (L ++ [x]) (T.drop (k + 1)) = (V, O)) := (toAsk_lt (by rw [← HXI.out]; exact hlt2)).symm.trans hR.out
              have NL : Hid ((L ++ [x]).length ≤ k + 1 + (if false then 1 else 0)) := by show _ ≤ _; simp; omega
              clear hR
              go_wp2_with (at_builtin; refine wpList_app1_tb rfl _ _ rfl _ L rfl (hT.out.below (below_tr (bx _ _) (bx _ _))) (wr.heap.size + 1) ⟨xi, ah, nh, ch, aq, nq, cq⟩ x rfl (rone2 _ _ ⟨xi, ah, nh, ch, aq, nq, cq⟩) ⟨HXI.out, .inl LH.out, .inl LQ.out⟩ (by omega) ?_)
              intro a9 n9 c9 w9 ht9 _
              have hT9 := hid ht9
              clear ht9 hT d0 d1 d2
              go_wp2_with fail
              go_roundw
              case rel => exact ⟨k + 1, false, ok, L ++ [x], _, by omega, by go_num, rfl, rfl, rfl, NR, NL, hT9⟩
              case measure => simp [intOf]; omega
            · have g2 : i ≤ xi := by omega
              by_cases heq : xi = i
              · subst heq
                have NR : Hid (toAsk xi ⟨t, m⟩ true (Lk.now x ⟨t, m⟩) (L ++ [Lk.ask x ⟨t, m⟩]) (T.drop (k + 1)) = (V, O)) := (toAsk_eq HXI.out.symm).symm.trans hR.out
                have NL : Hid ((L ++ [Lk.ask x ⟨t, m⟩]).length ≤ k + 1 + (if true then 1 else 0)) := by show _ ≤ _; simp; omega
                obtain ⟨W5, hW5⟩ : ∃ W5, W5 = wr.alloc (.cells #[.int .i64 xi, .slice ah nh ch, .slice aq nq cq] 57) := ⟨_, rfl⟩
                have B5 : Hid (Below wr.heap.size wr W5) := by show Below _ _ _; rw [hW5]; exact bx _ _
                have A5 : Hid (ArrAt W5 wr.heap.size #[.int .i64 xi, .slice ah nh ch, .slice aq nq cq] ∧ W5.heap.size = wr.heap.size + 1) := by show _ ∧ _; rw [hW5]; exact ⟨ArrAt.new wr _ 57, by simp⟩
                have KA := asked_any W5 xi (.slice ah nh ch) (.slice aq nq cq) x.h x.q ⟨t, m⟩ (LH.out.below (below_tr hT.out.bel B5.out)) (LQ.out.below (below_tr hT.out.bel B5.out)) RI.out.rh HM.out (by have := RI.out.rh.len; omega) (by have := RI.out.rq.len; omega)
                simp only at KA
                have HAE : Hid ((⟨xi, x.h, x.q⟩ : Lk.It) = x) := by show _ = _; rw [HXI.out]
                rw [HAE.out] at KA
                have HAI : Hid ((Lk.ask x ⟨t, m⟩).i = xi) := by show _ = _; rw [HXI.out]; unfold Lk.ask; split <;> rfl
                rw [hW5] at KA
                have KA := hid KA
                have HW5 := hid hW5
                clear hR hW5
                go_wp2_with fail
                refine KA.out.mono ?_
                rintro r w6 ⟨vh', vq', rfl, oh, oq, hb6⟩
                rw [← HW5.out] at oh oq hb6
                obtain ⟨y0, y1, y2, x0, x1, x2⟩ := (A5.out.1.below hb6).all3
                have lo : ∀ {v v' : Value} {L L' : List Lk.Lo}, OrOwn W5 w6 v v' L L' → ∃ a c n, v' = .slice a n c ∨ v' = v := fun {v v' L L'} h => by
                  rcases h with ⟨rfl, _⟩ | h
                  · exact ⟨none, 0, 0, .inr rfl⟩
                  · obtain ⟨a, c, e, _⟩ := h.at_
                    exact ⟨a, c, _, .inl e⟩
                have rh : ∃ a n c, vh' = .slice a n c := by
                  obtain ⟨a, c, n, e | e⟩ := lo oh
                  · exact ⟨a, n, c, e⟩
                  · exact ⟨_, _, _, e⟩
                have rq : ∃ a n c, vq' = .slice a n c := by
                  obtain ⟨a, c, n, e | e⟩ := lo oq
                  · exact ⟨a, n, c, e⟩
                  · exact ⟨_, _, _, e⟩
                obtain ⟨ah', nh', ch', rfl⟩ := rh
                obtain ⟨aq', nq', cq', rfl⟩ := rq
                obtain ⟨W6, hW6⟩ : ∃ W6, W6 = ((w6.setCell ⟨wr.heap.size, 0, none⟩ (.int .i64 xi)).setCell ⟨wr.heap.size, 1, none⟩ (.slice ah' nh' ch')).setCell ⟨wr.heap.size, 2, none⟩ (.slice aq' nq' cq') := ⟨_, rfl⟩
                have A6 : Hid (ArrAt W6 wr.heap.size #[.int .i64 xi, .slice ah' nh' ch', .slice aq' nq' cq']) := by show ArrAt _ _ _; rw [hW6]; exact (((A5.out.1.below hb6).put 0 _).put 1 _).put 2 _
                have B6 : Hid (Below wr.heap.size wr W6) := by
                  show Below _ _ _
                  rw [hW6]
                  exact (((below_tr B5.out hb6).setCell (p := ⟨wr.heap.size, 0, none⟩) (Nat.le_refl _) _).setCell (p := ⟨wr.heap.size, 1, none⟩) (Nat.le_refl _) _).setCell (p := ⟨wr.heap.size, 2, none⟩) (Nat.le_refl _) _
                have kp : ∀ {v v' : Value} {L L' : List Lk.Lo}, OrOwn W5 w6 v v' L L' → (v' = v ∧ L' = L) ∨ OwnLk W6 W5.heap.size v' L' := fun {v v' L L'} h => by
                  rcases h with h | h
                  · exact .inl h
                  · refine .inr (h.keep fun g hg => ?_)
                    have := (h.lt g hg).1
                    have := A5.out.2
                    rw [hW6, Below.heap_setCell _ ⟨wr.heap.size, 2, none⟩ _ _ (by show g ≠ wr.heap.size; omega), Below.heap_setCell _ ⟨wr.heap.size, 1, none⟩ _ _ (by show g ≠ wr.heap.size; omega), Below.heap_setCell _ ⟨wr.heap.size, 0, none⟩ _ _ (by show g ≠ wr.heap.size; omega)]
                have hs5 : W7.heap.size ≤ W5.heap.size := by have := hT.out.bel.size; have := A5.out.2; omega
                have M6 : Hid (MeansW W7 W6 ⟨xi, ah', nh', ch', aq', nq', cq'⟩ (Lk.ask x ⟨t, m⟩)) := ⟨HAI.out.symm, LsW.same2 (W := wr) (.inl LH.out) (kp oh) hs5 B6.out, LsW.same2 (W := wr) (.inl LQ.out) (kp oq) hs5 B6.out⟩
                have T6 := hid (hT.out.below B6.out)
                have HW6 := hid hW6
                have HS6 : Hid (W6.heap.size = w6.heap.size) := by show _ = _; rw [hW6]; simp [World.setCell]
                obtain ⟨r0, r1, r2, _⟩ := A6.out.all3
                rw [hW6] at r0 r1 r2
                clear hW6 oh oq hb6 kp lo hT A6 HW5 KA A5 B5 d0 d1 d2 c0 c1 e0 e1
                go_wp2_with (at_builtin; rw [← HW6.out]; refine wpList_app1_tb rfl _ _ rfl _ L rfl (T6.out.below (bx _ _)) w6.heap.size ⟨xi, ah', nh', ch', aq', nq', cq'⟩ (Lk.ask x ⟨t, m⟩) rfl (by rw [← HS6.out]; exact rone1 W6 ⟨xi, ah', nh', ch', aq', nq', cq'⟩) ⟨M6.out.i, M6.out.h.below (bx _ _), M6.out.q.below (bx _ _)⟩ (by omega) ?_)
                intro a9 n9 c9 w9 ht9 _
                have hT9 := hid ht9
                clear ht9 r0 r1 r2
                go_wp2_with fail
                go_roundw
                case rel => exact ⟨k + 1, true, _, L ++ [Lk.ask x ⟨t, m⟩], _, by omega, by go_num, rfl, rfl, rfl, NR, NL, hT9⟩
                case measure => simp [intOf]; omega
              · have hgt : i < xi := by omega
                have NR : Hid (toAsk i ⟨t, m⟩ true true (L ++ [⟨i, [⟨t, m⟩], []⟩] ++ [x]) (T.drop (k + 1)) = (V, O)) := (toAsk_gt (by rw [← HXI.out]; exact hgt)).symm.trans hR.out
                have NL : Hid ((L ++ [(⟨i, [⟨t, m⟩], []⟩ : Lk.It)] ++ [x]).length ≤ k + 1 + (if true then 1 else 0)) := by show _ ≤ _; simp; omega
                clear hR
                have hgt1 : decide (xi > i) = true := by simpa using hgt
                have own_lt := hT.out.own_lt
                have f0 : ∀ o o', ((wr.alloc o).alloc o').cell? ⟨wr.heap.size, 0, none⟩ = (wr.alloc o).cell? ⟨wr.heap.size, 0, none⟩ := fun o o' => World.cell?_of_block (a := ⟨wr.heap.size, 0, none⟩) ((bx (wr.alloc o) o').block _ (by simp))
                go_wp2_with (at_builtin; refine wpList_app1_tb rfl _ _ rfl _ L rfl (hT.out.below (below_tr (bx _ _) (below_tr (bx _ _) (bx _ _)))) (wr.heap.size + 1 + 1) ⟨i, some ⟨wr.heap.size + 1, 0, none⟩, 1, 1, none, 0, 0⟩ ⟨i, [⟨t, m⟩], []⟩ rfl (rone3 _ _ _ ⟨i, some ⟨wr.heap.size + 1, 0, none⟩, 1, 1, none, 0, 0⟩) (means_one (by have := hT.out.bel.size; exact this)) (by omega) ?_)
                intro a8 n8 c8 w8 ht8 hg8
                have blk : w8.heap[wr.heap.size]? = some (.cells #[.int .i64 xi, .slice ah nh ch, .slice aq nq cq] 57 (0, 0)) :=
                  (hg8.block _ (by simp only [World.size_alloc]; omega) (fun e => Nat.lt_irrefl _ (own_lt _ e.symm))).trans (((below_tr (bx (wr.alloc (.cells #[.int .i64 xi, .slice ah nh ch, .slice aq nq cq] 57)) _) (bx _ _)).block _ (by simp)).trans (heap_alloc_new wr _))
                have z0 : w8.cell? ⟨wr.heap.size, 0, none⟩ = some (.int .i64 xi) := by rw [cell_of_row w8 _ _ _ _ _ blk]; rfl
                have z1 : w8.cell? ⟨wr.heap.size, 1, none⟩ = some (.slice ah nh ch) := by rw [cell_of_row w8 _ _ _ _ _ blk]; rfl
                have z2 : w8.cell? ⟨wr.heap.size, 2, none⟩ = some (.slice aq nq cq) := by rw [cell_of_row w8 _ _ _ _ _ blk]; rfl
                have hT8 := hid ht8
                clear ht8 hg8 blk own_lt f0 hT c0 c1 e0 e1 d0 d1 d2
                go_wp2_with (at_builtin; refine wpList_app1_tb rfl _ _ rfl _ (L ++ [⟨i, [⟨t, m⟩], []⟩]) rfl (hT8.out.below (bx _ _)) w8.heap.size ⟨xi, ah, nh, ch, aq, nq, cq⟩ x rfl (rone1 w8 ⟨xi, ah, nh, ch, aq, nq, cq⟩) ⟨HXI.out, .inl LH.out, .inl LQ.out⟩ (by simp; omega) ?_)
                intro a9 n9 c9 w9 ht9 _
                have hT9 := hid ht9
                clear ht9 z0 z1 z2
                go_wp2_with fail
                go_roundw
                case rel =>
                  have hT9 : Hid (TbW W7 w9 (.slice a9 n9 c9) (L ++ [(⟨i, [⟨t, m⟩], []⟩ : Lk.It)] ++ [x])) := by show TbW _ _ _ _; rw [List.append_assoc]; exact hT9.out
                  exact ⟨k + 1, true, true, L ++ [⟨i, [⟨t, m⟩], []⟩] ++ [x], _, by omega, by go_num, rfl, rfl, rfl, NR, NL, hT9⟩
                case measure => simp [intOf]; omega
        · obtain rfl : k = T.length := by omega
          have j3 : decide ((T.length : Int) < (T.length : Int)) = false := by simp
          rw [List.drop_length] at hR
          cases p with
          | true =>
            have HV2 : Hid (V = L ∧ O = ok) := by have := hR.out; simp [toAsk] at this; exact ⟨this.1.symm, this.2.symm⟩
            have F := hT.out.at_
            have FB := below_tr B7.out hT.out.bel
            clear hR
            go_wp2_with fail
            go_ret3
            exact ⟨_, by rw [HE2.out, HV2.out.2]; rfl, by rw [HV2.out.1]; exact F, FB⟩
          | false =>
            have HV2 : Hid (V = L ++ [⟨i, [⟨t, m⟩], []⟩] ∧ O = true) := by have := hR.out; rw [toAsk_nil] at this; injection this with h1 h2; exact ⟨h1.symm, h2.symm⟩
            clear hR
            have F1 := fun o o' => hT.out.below (below_tr (bx wr o) (bx _ o'))
            obtain ⟨c0, c1⟩ := C7.out _ hT.out.bel
            go_wp2_with (at_builtin; refine wpList_app1_tb rfl _ _ rfl _ L rfl (F1 _ _) (wr.heap.size + 1) ⟨i, some ⟨wr.heap.size, 0, none⟩, 1, 1, none, 0, 0⟩ ⟨i, [⟨t, m⟩], []⟩ rfl (rone2 _ _ ⟨i, some ⟨wr.heap.size, 0, none⟩, 1, 1, none, 0, 0⟩) (means_one0 (by have := hT.out.bel.size; exact this)) (by have h := hL.out; simp at h; omega) ?_)
            intro a9 n9 c9 w9 ht9 _
            have F := ht9.at_
            have FB := below_tr B7.out ht9.bel
            clear ht9 F1
            go_wp2_with fail
            go_ret3
            exact ⟨_, by rw [HE2.out, HV2.out.2]; rfl, by rw [HV2.out.1]; exact F, FB⟩
end Go.Proofs.Ytjoaedkgjnchoac.PLock
