/- The document's own log: Append, walked. -/
import Derived.Test.YthfpinjegfgeiaaWalRefLog
import Derived.BigRegion
namespace Go.Proofs.Ythfpinjegfgeiaa
open Go Go.RowKit
set_option maxRecDepth 100000

structure RAppAt (w wr : World) (lb rb : Nat) (F : Nat → FR) (D : SD) (G : LG) (g c : Nat) (S : List ByteArray) (k : Nat) (F' : Nat → FR) (D' : SD) : Prop where
  wal : RWalAt wr lb rb F' D' G
  tx : TxAt wr g 0 c S
  far : ¬ rwown rb F' lb g
  eq : wlAll D G G.used S = wlAll D' G (G.used + k) (S.drop k)
  goes : Goes (rwown rb F lb) w wr (rwown rb F' lb)
  few : D'.loose.length ≤ D.loose.length + k

theorem RAppAt.next {w wr : World} {lb rb : Nat} {F : Nat → FR} {D : SD} {G : LG} {g c : Nat} {S : List ByteArray} {k : Nat} {F' : Nat → FR} {D' : SD} (h : RAppAt w wr lb rb F D G g c S k F' D') {s : ByteArray} (hs : S[k]? = some s) {F2 : Nat → FR} {w2 : World} {x : Int × SD}
    (hx : D'.write ((G.frm : Int) + (G.used : Int) + (k : Int)) s = x) (h2 : RWalAt w2 lb rb F2 x.2 G) (g2 : Goes (rwown rb F' lb) wr w2 (rwown rb F2 lb)) :
    (x.1 = 0 → RAppAt w w2 lb rb F D G g c S (k + 1) F2 x.2) ∧ (x.1 ≠ 0 → wlAll D G G.used S = (x.1, x.2, G.heed x.1)) := by
  have hk : k < S.length := (List.getElem?_eq_some_iff.1 hs).1
  have e0 : wlWrite D' G (G.used + k) s = (x.1, x.2, G.heed x.1) := by
    unfold wlWrite
    rw [show ((G.frm : Int) + ((G.used + k : Nat) : Int)) = (G.frm : Int) + (G.used : Int) + (k : Int) by omega, hx]
  have e1 : S.drop k = s :: S.drop (k + 1) := by
    rw [List.drop_eq_getElem_cons hk]
    congr 1
    exact (List.getElem?_eq_some_iff.1 hs).2
  have e2 := h.eq
  rw [e1, wlAll, e0] at e2
  simp only at e2
  have hlen := wlWrite_len D' G (G.used + k) s
  rw [e0] at hlen
  constructor
  · intro h0
    rw [if_pos h0, h0, heed_zero] at e2
    refine ⟨h2, h.tx.keep (g2.block g h.tx.lt h.far), fun e => ?_, e2, h.goes.trans g2, ?_⟩
    · rcases g2.grow g e with e | e
      · exact h.far e
      · have := h.tx.lt; omega
    · have := h.few
      simp only at hlen
      omega
  · intro h0
    rw [if_neg h0] at e2
    exact e2

set_option maxHeartbeats 4000000 in
theorem rappend_any (w : World) (lb rb : Nat) (F : Nat → FR) (D : SD) (G : LG) (h : RWalAt w lb rb F D G) (t : ByteArray) (hf : D.loose.length ≤ 2999999999000) :
    Calls Try.prog 37 #[.pointer (some ⟨lb, 0, none⟩), .string t] w (RPost w lb rb F (wlAppend D G t)) := by
  have l6 := h.l6
  have H := hid h
  obtain ⟨Y, hY⟩ : ∃ Y, Y = wlAppend D G t := ⟨_, rfl⟩
  rw [← hY]
  have HY := hid hY
  clear hY
  by_cases hs : G.sound = false
  · have HY1 : Hid (Y = (10, D, G)) := by show _ = _; rw [HY.out, wlAppend, if_pos hs]
    rw [hs] at l6
    clear h hs
    go_enter Try.func37, Try.ntmps37
    go_wp2_with fail
    go_ret
    rw [HY1.out]
    exact ⟨F, rfl, H.out, Goes.refl _ _⟩
  · have hs' : G.sound = true := by simpa using hs
    rw [hs'] at l6
    by_cases ht : 300 < t.size
    · have HY1 : Hid (Y = (2, D, G)) := by show _ = _; rw [HY.out, wlAppend, if_neg hs, if_pos ht]
      have ht' : (300 : Int) < (t.size : Int) := by omega
      clear h hs hs'
      go_enter Try.func37, Try.ntmps37
      go_wp2_with fail
      go_ret
      rw [HY1.out]
      exact ⟨F, rfl, H.out, Goes.refl _ _⟩
    · have HY1 : Hid (Y = if G.n < G.used + (parts G.epoch G.count t).length then (8, D, G) else wlMore (parts G.epoch G.count t).length (wlAll D G G.used (parts G.epoch G.count t))) := by show _ = _; rw [HY.out, wlAppend, if_neg hs, if_neg ht]
      have ht' : (t.size : Int) ≤ 300 := by omega
      have l3 := h.l3
      have l5 := h.l5
      have l3' : w.drew.cell? ⟨lb, 3, none⟩ = some (.int .i64 (G.epoch : Int)) := h.drew.l3
      have l5' : w.drew.cell? ⟨lb, 5, none⟩ = some (.int .i64 (G.count : Int)) := h.drew.l5
      have htop := h.ok.top
      have hfit := h.ok.fit
      have hcnt := h.ok.cnt
      have huse := h.ok.use
      have KP := hid fun W => recordSectors_any t (G.epoch : Int) (G.count : Int) W (by omega) (by unfold Wl.I64; omega) (by unfold Wl.I64; omega)
      have eP : (Wl.secsOf (G.epoch : Int) (G.count : Int) t.data.toList).length = (parts G.epoch G.count t).length := by unfold parts; rw [List.length_map]
      rw [show (Wl.secsOf (G.epoch : Int) (G.count : Int) t.data.toList).map ba = parts G.epoch G.count t from rfl, eP] at KP
      have hS0 : 0 < (parts G.epoch G.count t).length := by
        obtain ⟨f, _, h⟩ := Wl.secs_cons (G.epoch : Int) (G.count : Int) t.data.toList
        unfold parts
        rw [h]
        simp
      clear eP HY
      generalize parts G.epoch G.count t = S at *
      have KH := hid fun W F' D' G' (hW : RWalAt W lb rb F' D' G') e => fall_any W lb rb F' D' G' hW e
      clear h ht hs hs'
      go_enter Try.func37, Try.ntmps37
      go_wp2_with fail
      go_region_held3 (fun W => W.cell? ⟨lb, 3, none⟩ = some (.int .i64 (G.epoch : Int)) ∧ W.cell? ⟨lb, 5, none⟩ = some (.int .i64 (G.count : Int)))
        (first | (go_split_ands; exact ⟨by assumption, by assumption⟩))
        ((go_at_call 69; refine (KP.out _).mono ?_; rintro r w1 ⟨g, c, rfl, htx, hg, hb1⟩; have B1 := hid hb1; have TX := hid htx; have m3 := (H.out.drew.below hb1).l3; have m5 := (H.out.drew.below hb1).l5; clear hb1 htx))
      all_goals skip
      have W1 := hid (H.out.drew.below B1.out)
      have GO1 : Hid (Goes (rwown rb F lb) w w1 (rwown rb F lb)) := (Goes.refl _ w).drew.trans (Goes.below' B1.out)
      have FG : Hid (¬ rwown rb F lb g) := fun e => by have := H.out.own_lt g e; have hg' : w.heap.size ≤ g := hg; omega
      clear H B1 l3' l5' l3 l5 l6 hg KP m3 m5
      have hcap : S.length ≤ 9223372036854775807 := by have := TX.out.len; have := TX.out.cap; unfold maxLen at this; omega
      have l2 := W1.out.l2
      have l4 := W1.out.l4
      have hn1 : (G.n : Int) ≤ 256 := by omega
      have hu1 : (G.used : Int) ≤ 256 := by omega
      go_wp2_with fail
      go_quiet (fail)
      by_cases hfull : G.n < G.used + S.length
      · have HY8 : Hid (Y = (8, D, G)) := by show _ = _; rw [HY1.out, if_pos hfull]
        have hq : decide ((G.n : Int) - (G.used : Int) < (S.length : Int)) = true := by simp; omega
        have hq2 : (G.n : Int) - (G.used : Int) < (S.length : Int) := by omega
        have W2 : Hid (RWalAt (w1.drewN nq) lb rb F D G) := W1.out.below (below_drewN (Below.refl _ w1) nq)
        have GO2 : Hid (Goes (rwown rb F lb) w (w1.drewN nq) (rwown rb F lb)) := GO1.out.trans (Goes.below' (below_drewN (Below.refl _ w1) nq))
        go_wp2_with fail
        go_ret
        rw [HY8.out]
        exact ⟨F, rfl, W2.out, GO2.out⟩
      · have HY9 : Hid (Y = wlMore S.length (wlAll D G G.used S)) := by show _ = _; rw [HY1.out, if_neg hfull]
        have hq : decide ((G.n : Int) - (G.used : Int) < (S.length : Int)) = false := by simp; omega
        have hq2 : ¬ (G.n : Int) - (G.used : Int) < (S.length : Int) := by omega
        have A0 : Hid (RAppAt w (w1.drewN nq) lb rb F D G g c S 0 F D) := ⟨W1.out.below (below_drewN (Below.refl _ w1) nq), TX.out.keep rfl, FG.out, rfl, GO1.out.trans (Goes.below' (below_drewN (Below.refl _ w1) nq)), Nat.le_refl _⟩
        clear W1 TX FG GO1 l2 l4
        generalize w1.drewN nq = w2 at *
        go_wp2_with fail
        go_loopw [40] (fun i wr => ∃ (k : Nat) (F' : Nat → FR) (D' : SD), k ≤ S.length ∧ i = .int .i64 (k : Int) ∧ Hid (RAppAt w wr lb rb F D G g c S k F' D')) (fun i _ => S.length - (intOf i).toNat)
        case atStart => exact ⟨0, F, D, Nat.zero_le _, rfl, A0⟩
        case round =>
          clear A0
          obtain ⟨k, F', D', hk, rfl, ha⟩ := hrel
          by_cases hlt : k < S.length
          · obtain ⟨s, hs⟩ : ∃ s, S[k]? = some s := ⟨_, List.getElem?_eq_getElem hlt⟩
            have hc := ha.out.tx.cell k s hs
            rw [Nat.zero_add] at hc
            have j0 := ha.out.wal.l0
            have j1 := ha.out.wal.l1
            have j4 := ha.out.wal.l4
            have j0' : wr.drew.cell? ⟨lb, 0, none⟩ = some (.pointer (some ⟨rb, 0, none⟩)) := ha.out.wal.drew.l0
            have j1' : wr.drew.cell? ⟨lb, 1, none⟩ = some (.int .i64 (G.frm : Int)) := ha.out.wal.drew.l1
            have j4' : wr.drew.cell? ⟨lb, 4, none⟩ = some (.int .i64 (G.used : Int)) := ha.out.wal.drew.l4
            have k0 : (0 : Int) ≤ (k : Int) := by omega
            have k1 : (k : Int) < (S.length : Int) := by omega
            have hw1 : IntKind.i64.wrap ((G.frm : Int) + (G.used : Int)) = (G.frm : Int) + (G.used : Int) := IntWalk.i64_in _ ⟨by omega, by omega⟩
            have hw2 : IntKind.i64.wrap ((G.frm : Int) + (G.used : Int) + (k : Int)) = (G.frm : Int) + (G.used : Int) + (k : Int) := IntWalk.i64_in _ ⟨by omega, by omega⟩
            have KW := rwrite_any wr.drew lb rb F' D' G ha.out.wal.drew ((G.frm : Int) + (G.used : Int) + (k : Int)) s (by unfold few; have := ha.out.few; omega)
            have NXT := fun F2 w2 x (hx : D'.write ((G.frm : Int) + (G.used : Int) + (k : Int)) s = x) h2 g2 => ha.out.next hs (F2 := F2) (w2 := w2) hx h2 g2
            obtain ⟨cw, Dw, hX⟩ : ∃ c D1, D'.write ((G.frm : Int) + (G.used : Int) + (k : Int)) s = (c, D1) := ⟨_, _, rfl⟩
            rw [hX] at KW
            have KW' := hid KW
            have NX' := hid fun F2 w2 h2 g2 => NXT F2 w2 (cw, Dw) hX h2 g2
            clear KW NXT hX
            by_cases h0 : cw = 0
            · subst h0
              go_wp2_with fail
              go_region_held3 (fun W => W.cell? ⟨lb, 0, none⟩ = some (.pointer (some ⟨rb, 0, none⟩)) ∧ W.cell? ⟨lb, 1, none⟩ = some (.int .i64 (G.frm : Int)) ∧ W.cell? ⟨lb, 4, none⟩ = some (.int .i64 (G.used : Int)))
                (first | (go_split_ands; exact ⟨by assumption, by assumption, by assumption⟩))
                ((go_at_call 52; refine KW'.out.mono ?_; rintro r w3 ⟨F3, rfl, h3, g3⟩; have m0 := h3.l0; have m1 := h3.l1; have m4 := h3.l4; have NX := hid ((NX'.out F3 w3 h3 ((Goes.refl _ wr).drew.trans g3)).1 (by simp)); clear h3 g3))
              all_goals skip
              clear KW' NX' hc j0 j1 j4 j0' j1' j4' hw1 hw2
              go_wp2_with fail
              go_roundw
              case rel => exact ⟨k + 1, F3, _, by omega, by go_num, NX⟩
              case measure => simp [intOf]; omega
            · have h0' : (cw != 0) = true := by simpa using h0
              go_wp2_with fail
              go_region_held3 (fun W => W.cell? ⟨lb, 0, none⟩ = some (.pointer (some ⟨rb, 0, none⟩)) ∧ W.cell? ⟨lb, 1, none⟩ = some (.int .i64 (G.frm : Int)) ∧ W.cell? ⟨lb, 4, none⟩ = some (.int .i64 (G.used : Int)))
                (first | (go_split_ands; exact ⟨by assumption, by assumption, by assumption⟩))
                ((go_at_call 52; refine KW'.out.mono ?_; rintro r w3 ⟨F3, rfl, h3, g3⟩; have m0 := h3.l0; have m1 := h3.l1; have m4 := h3.l4; have NX := hid ((NX'.out F3 w3 h3 ((Goes.refl _ wr).drew.trans g3)).2 h0); have W3 := hid h3; have GG3 := hid (ha.out.goes.trans ((Goes.refl _ wr).drew.trans g3)); clear h3 g3))
              all_goals skip
              have HYX : Hid (Y = (cw, Dw, G.heed cw)) := by show _ = _; rw [HY9.out, NX.out]; unfold wlMore; rw [if_neg h0]
              clear KW' NX' hc j0 j1 j4 j0' j1' j4' hw1 hw2 NX
              go_wp2_with fail
              refine (KH.out _ _ _ _ W3.out cw).mono ?_
              rintro r w5 ⟨rfl, h5, g5⟩
              have H5 := hid h5
              have G5 := hid g5
              clear h5 g5
              go_wp2_with fail
              go_ret
              rw [HYX.out]
              exact ⟨F3, rfl, H5.out, GG3.out.trans G5.out⟩
          · obtain rfl : k = S.length := by omega
            have e1 := ha.out.eq
            rw [List.drop_length, wlAll] at e1
            have HYX : Hid (Y = (0, D', { G with count := G.count + 1, used := G.used + S.length })) := by show _ = _; rw [HY9.out, e1]; unfold wlMore; rw [if_pos rfl]
            have j4 := ha.out.wal.l4
            have j5 := ha.out.wal.l5
            have f4 := ha.out.wal.lf 4
            have f5 := ha.out.wal.lf 5
            have j4' : wr.drew.cell? ⟨lb, 4, none⟩ = some (.int .i64 (G.used : Int)) := ha.out.wal.drew.l4
            have j5' : wr.drew.cell? ⟨lb, 5, none⟩ = some (.int .i64 (G.count : Int)) := ha.out.wal.drew.l5
            have f4' : wr.drew.frozen? ⟨lb, 4, none⟩ = false := ha.out.wal.drew.lf 4
            have f5' : wr.drew.frozen? ⟨lb, 5, none⟩ = false := ha.out.wal.drew.lf 5
            have c45 := ha.out.wal.drew.cell45 (G.used + S.length) (G.count + 1)
            rw [show ((G.count + 1 : Nat) : Int) = (G.count : Int) + 1 by omega, show ((G.used + S.length : Nat) : Int) = (G.used : Int) + (S.length : Int) by omega] at c45
            have hct : (G.count : Int) ≤ 256 := by omega
            have hSl : (S.length : Int) ≤ 256 := by omega
            have ST := hid (ha.out.wal.drew.set (G' := { G with count := G.count + 1, used := G.used + S.length }) ⟨ha.out.wal.ok.n2, ha.out.wal.ok.fit, ha.out.wal.ok.top, by show G.count + 1 < G.used + S.length; omega, by show G.used + S.length ≤ G.n; omega⟩ c45)
            have HG := hid ha.out.goes
            clear ha c45 e1
            go_wp2_with fail
            go_region
            all_goals (try go_wp2_with fail)
            all_goals go_ret
            all_goals (rw [HYX.out]; exact ⟨F', rfl, ST.out.1, (HG.out.trans (Goes.refl _ wr).drew).trans ST.out.2⟩)

end Go.Proofs.Ythfpinjegfgeiaa

/- The document's own log: Reset, walked. -/
namespace Go.Proofs.Ythfpinjegfgeiaa
open Go Go.RowKit
set_option maxRecDepth 100000

theorem wlRaise_log {D : SD} {G : LG} (h : (wlRaise D G).1 = 0) : (wlRaise D G).2.2 = { G with epoch := G.epoch + 1 } ∧ G.epoch ≠ 1000000 := by
  by_cases hE : G.epoch = 1000000
  · rw [raise_full hE] at h; simp at h
  · refine ⟨?_, hE⟩
    by_cases hw : (D.write (G.frm : Int) (anchorB ((G.epoch : Int) + 1))).1 = 0
    · have e := wlRaise_flush hE hw
      by_cases hf : (D.write (G.frm : Int) (anchorB ((G.epoch : Int) + 1))).2.flush.1 = 0
      · rw [if_pos hf] at e; rw [e]
      · rw [if_neg hf] at e; rw [e] at h; exact absurd h hf
    · have e := wlRaise_write hE hw
      rw [e] at h
      exact absurd h hw
theorem wlSafe_cases (D : SD) (G : LG) (s : ByteArray) : wlSafe D G 1 s = if (D.write ((G.frm : Int) + 1) s).1 = 0 then ((D.write ((G.frm : Int) + 1) s).2.flush.1, (D.write ((G.frm : Int) + 1) s).2.flush.2, G.heed (D.write ((G.frm : Int) + 1) s).2.flush.1) else ((D.write ((G.frm : Int) + 1) s).1, (D.write ((G.frm : Int) + 1) s).2, G.heed (D.write ((G.frm : Int) + 1) s).1) := by
  unfold wlSafe wlFlush wlWrite
  simp only
  rw [show ((G.frm : Int) + ((1 : Nat) : Int)) = (G.frm : Int) + 1 by omega]
  split
  · rename_i h; rw [h, heed_zero]
  · rfl

set_option maxHeartbeats 4000000 in
theorem rreset_any (w : World) (lb rb : Nat) (F : Nat → FR) (D : SD) (G : LG) (h : RWalAt w lb rb F D G) (t : ByteArray) (hf : D.loose.length ≤ 2999999999000) :
    Calls Try.prog 41 #[.pointer (some ⟨lb, 0, none⟩), .string t] w (RPost w lb rb F (wlReset D G t)) := by
  have l6 := h.l6
  have H := hid h
  obtain ⟨Y, hY⟩ : ∃ Y, Y = wlReset D G t := ⟨_, rfl⟩
  rw [← hY]
  have HY := hid hY
  clear hY
  by_cases hs : G.sound = false
  · have HY1 : Hid (Y = (10, D, G)) := by show _ = _; rw [HY.out, wlReset, if_pos hs]
    rw [hs] at l6
    clear h hs
    go_enter Try.func41, Try.ntmps41
    go_wp2_with fail
    go_ret
    rw [HY1.out]
    exact ⟨F, rfl, H.out, Goes.refl _ _⟩
  · have hs' : G.sound = true := by simpa using hs
    rw [hs'] at l6
    by_cases ht : 300 < t.size
    · have HY1 : Hid (Y = (2, D, G)) := by show _ = _; rw [HY.out, wlReset, if_neg hs, if_pos ht]
      have ht' : (300 : Int) < (t.size : Int) := by omega
      clear h hs hs'
      go_enter Try.func41, Try.ntmps41
      go_wp2_with fail
      go_ret
      rw [HY1.out]
      exact ⟨F, rfl, H.out, Goes.refl _ _⟩
    · have HY1 : Hid (Y = if 1 < (parts (G.epoch + 1) 0 t).length then (8, D, G) else wlReset1 ((parts (G.epoch + 1) 0 t).getD 0 ⟨#[]⟩) (wlRaise D G)) := by show _ = _; rw [HY.out, wlReset, if_neg hs, if_neg ht]
      have ht' : (t.size : Int) ≤ 300 := by omega
      have l3 := h.l3
      have htop := h.ok.top
      have htop' : (G.epoch : Int) ≤ 1000000 := by omega
      have KP := hid fun W => recordSectors_any t ((G.epoch + 1 : Nat) : Int) 0 W (by omega) (by unfold Wl.I64; omega) (by unfold Wl.I64; omega)
      have eP : (Wl.secsOf ((G.epoch + 1 : Nat) : Int) 0 t.data.toList).length = (parts (G.epoch + 1) 0 t).length := by unfold parts; rw [List.length_map]; rfl
      rw [show (Wl.secsOf ((G.epoch + 1 : Nat) : Int) 0 t.data.toList).map ba = parts (G.epoch + 1) 0 t from rfl, eP, show ((G.epoch + 1 : Nat) : Int) = (G.epoch : Int) + 1 by omega] at KP
      have hS0 : 0 < (parts (G.epoch + 1) 0 t).length := by
        obtain ⟨f, _, h⟩ := Wl.secs_cons ((G.epoch + 1 : Nat) : Int) ((0 : Nat) : Int) t.data.toList
        unfold parts
        rw [h]
        simp
      clear eP HY
      generalize parts (G.epoch + 1) 0 t = S at *
      have KR := hid fun W (hW : RWalAt W lb rb F D G) => rraise_any W lb rb F D G hW (by unfold few; omega)
      have KH := hid fun W F' D' G' (hW : RWalAt W lb rb F' D' G') e => fall_any W lb rb F' D' G' hW e
      have hrl := wlRaise_len D G
      have HWL := hid fun h => wlRaise_log (D := D) (G := G) h
      clear h ht hs hs'
      go_enter Try.func41, Try.ntmps41
      go_wp2_with fail
      refine (KP.out _).mono ?_
      rintro r w1 ⟨g, c, rfl, htx, hg, hb1⟩
      have B1 := hid hb1
      have W1 := hid (H.out.below hb1)
      have hcap : S.length ≤ 9223372036854775807 := by have := htx.len; have := htx.cap; unfold maxLen at this; omega
      clear hb1 htx H l3 l6 hg
      by_cases hone : 1 < S.length
      · have HY2 : Hid (Y = (8, D, G)) := by show _ = _; rw [HY1.out, if_pos hone]
        have hq : ((S.length : Int) != 1) = true := by simp; omega
        have hq2 : (S.length != 1) = true := by simp; omega
        go_wp2_with fail
        go_ret
        rw [HY2.out]
        exact ⟨F, rfl, W1.out, Goes.below' B1.out⟩
      · have HY2 : Hid (Y = wlReset1 (S.getD 0 ⟨#[]⟩) (wlRaise D G)) := by show _ = _; rw [HY1.out, if_neg hone]
        have hone' : S.length = 1 := by omega
        obtain ⟨s, rfl⟩ : ∃ s, S = [s] := List.length_eq_one_iff.1 hone'
        obtain ⟨c1, D1, G1, hX⟩ : ∃ c1 D1 G1, wlRaise D G = (c1, D1, G1) := ⟨_, _, _, rfl⟩
        rw [hX] at KR HY2 hrl HWL
        simp only at hrl HWL
        clear HY1 hX hone
        have hq1 : ([s] : List ByteArray).length = 1 := rfl
        rw [hq1] at KP ⊢
        go_wp2_with fail
        refine (KR.out _ W1.out).mono ?_
        rintro r w2 ⟨F2, rfl, h2, g2⟩
        have H2 := hid h2
        have GG2 := hid ((Goes.below' B1.out).trans g2)
        clear h2 g2 KR
        by_cases hc1 : c1 = 0
        · subst hc1
          obtain ⟨hG1, hEn⟩ := HWL.out rfl
          have HY3 : Hid (Y = wlOnly (wlSafe D1 G1 1 s)) := by show _ = _; rw [HY2.out, wlReset1, if_pos rfl]; rfl
          have HSC := hid (wlSafe_cases D1 G1 s)
          have j0 := H2.out.l0
          have j1 := H2.out.l1
          have j3 := H2.out.l3
          have hep : (G1.epoch : Int) = (G.epoch : Int) + 1 := by rw [hG1]; show ((G.epoch + 1 : Nat) : Int) = _; omega
          rw [hep] at j3
          have hfr : (G1.frm : Int) ≤ 256 := by have hx : G1.frm + G1.n ≤ 256 := H2.out.ok.fit; omega
          have hw1 : IntKind.i64.wrap ((G1.frm : Int) + 1) = (G1.frm : Int) + 1 := IntWalk.i64_in _ ⟨by omega, by omega⟩
          have KW := hid fun W (hW : RWalAt W lb rb F2 D1 G1) => rwrite_any W lb rb F2 D1 G1 hW ((G1.frm : Int) + 1) s (by unfold few; omega)
          have KF := hid fun W F' D' (hW : RWalAt W lb rb F' D' G1) => rflush_any W lb rb F' D' G1 hW
          obtain ⟨c3, D3, hX3⟩ : ∃ c3 D3, D1.write ((G1.frm : Int) + 1) s = (c3, D3) := ⟨_, _, rfl⟩
          rw [hX3] at KW HSC
          simp only at HSC
          clear hX3 hG1 HWL HY2
          have HEP := hid hep
          clear hep
          have SH : Hid (∀ W F' D', RWalAt W lb rb F' D' G1 → (fun W : World => W.cell? ⟨lb, 0, none⟩ = some (.pointer (some ⟨rb, 0, none⟩)) ∧ W.cell? ⟨lb, 1, none⟩ = some (.int .i64 (G1.frm : Int)) ∧ W.cell? ⟨lb, 3, none⟩ = some (.int .i64 ((G.epoch : Int) + 1))) W) := fun W F' D' hW => ⟨hW.l0, hW.l1, by rw [← HEP.out]; exact hW.l3⟩
          go_wp2_with fail
          refine wp_region_noPanic ?_
          refine wp_region_any (by kernel_rfl) ?_
          change wpAny _ _ _ _ _ _ _ w2.drew
          refine wpAny_of_held (S := (fun W : World => W.cell? ⟨lb, 0, none⟩ = some (.pointer (some ⟨rb, 0, none⟩)) ∧ W.cell? ⟨lb, 1, none⟩ = some (.int .i64 (G1.frm : Int)) ∧ W.cell? ⟨lb, 3, none⟩ = some (.int .i64 ((G.epoch : Int) + 1)))) _ _ _ _ ?_
          have hHeld : (fun W : World => W.cell? ⟨lb, 0, none⟩ = some (.pointer (some ⟨rb, 0, none⟩)) ∧ W.cell? ⟨lb, 1, none⟩ = some (.int .i64 (G1.frm : Int)) ∧ W.cell? ⟨lb, 3, none⟩ = some (.int .i64 ((G.epoch : Int) + 1))) w2.drew := SH.out _ _ _ H2.out.drew
          refine wpAnyH_take (i := 0) (v := ?tv1) rfl (by kernel_rfl) (by kernel_rfl) (by kernel_rfl) (fun _ _ _ h => h) (Or.inl ⟨by rfl, ?th1⟩) (by assumption) ?tr1
          case th1 => (intro w hSw; (try dsimp only at hSw); go_simp; all_goals (with_reducible rfl))
          simp only [Act.put, List.getElem_toArray, List.getElem_cons_zero, List.setIfInBounds_toArray, List.set_cons_zero, List.set_cons_succ]
          refine wpAnyH_take (i := 1) (v := ?tv2) rfl (by kernel_rfl) (by kernel_rfl) (by kernel_rfl) (fun _ _ _ h => h) (Or.inl ⟨by rfl, ?th2⟩) (by assumption) ?tr2
          case th2 => (intro w hSw; (try dsimp only at hSw); go_simp; all_goals (with_reducible rfl))
          simp only [Act.put, List.getElem_toArray, List.getElem_cons_zero, List.getElem_cons_succ, List.setIfInBounds_toArray, List.set_cons_zero, List.set_cons_succ]
          refine wpAnyH_take (i := 2) (v := ?tv3) rfl (by kernel_rfl) (by kernel_rfl) (by kernel_rfl) (fun _ _ _ h => h) (Or.inl ⟨by rfl, ?th3⟩) (by assumption) ?tr3
          case th3 => (intro w hSw; (try dsimp only at hSw); go_simp; all_goals (with_reducible rfl))
          simp only [Act.put, List.getElem_toArray, List.getElem_cons_zero, List.getElem_cons_succ, List.setIfInBounds_toArray, List.set_cons_zero, List.set_cons_succ]
          refine wpAnyH_take (i := 3) (v := ?tv4) rfl (by kernel_rfl) (by kernel_rfl) (by kernel_rfl) (fun _ _ _ h => h) (Or.inl ⟨by rfl, ?th4⟩) (by assumption) ?tr4
          case th4 => (intro w hSw; (try dsimp only at hSw); go_simp; all_goals (with_reducible rfl))
          simp only [Act.put, List.getElem_toArray, List.getElem_cons_zero, List.getElem_cons_succ, List.setIfInBounds_toArray, List.set_cons_zero, List.set_cons_succ]
          refine wpAnyH_take (i := 4) (v := ?tv5) rfl (by kernel_rfl) (by kernel_rfl) (by kernel_rfl) (fun _ _ _ h => h) (Or.inl ⟨by rfl, ?th5⟩) (by assumption) ?tr5
          case th5 => (intro w hSw; (try dsimp only at hSw); go_simp; all_goals (with_reducible rfl))
          simp only [Act.put, List.getElem_toArray, List.getElem_cons_zero, List.getElem_cons_succ, List.setIfInBounds_toArray, List.set_cons_zero, List.set_cons_succ]
          refine wpAnyH_take (i := 5) (v := ?tv6) rfl (by kernel_rfl) (by kernel_rfl) (by kernel_rfl) (fun _ _ _ h => h) (Or.inl ⟨by rfl, ?th6⟩) (by assumption) ?tr6
          case th6 => (intro w hSw; (try dsimp only at hSw); go_simp; all_goals (with_reducible rfl))
          simp only [Act.put, List.getElem_toArray, List.getElem_cons_zero, List.getElem_cons_succ, List.setIfInBounds_toArray, List.set_cons_zero, List.set_cons_succ]
          refine wpAnyH_take (i := 6) (v := ?tv7) rfl (by kernel_rfl) (by kernel_rfl) (by kernel_rfl) (fun _ _ _ h => h) (Or.inl ⟨by rfl, ?th7⟩) (by assumption) ?tr7
          case th7 => (intro w hSw; (try dsimp only at hSw); go_simp; all_goals (with_reducible rfl))
          simp only [Act.put, List.getElem_toArray, List.getElem_cons_zero, List.getElem_cons_succ, List.setIfInBounds_toArray, List.set_cons_zero, List.set_cons_succ]
          refine wpAnyH_take (i := 7) (v := ?tv8) rfl (by kernel_rfl) (by kernel_rfl) (by kernel_rfl) (fun _ _ _ h => h) (Or.inl ⟨by rfl, ?th8⟩) (by assumption) ?tr8
          case th8 => (intro w hSw; (try dsimp only at hSw); go_simp; all_goals (with_reducible rfl))
          simp only [Act.put, List.getElem_toArray, List.getElem_cons_zero, List.getElem_cons_succ, List.setIfInBounds_toArray, List.set_cons_zero, List.set_cons_succ]
          refine wpAnyH_take (i := 8) (v := ?tv9) rfl (by kernel_rfl) (by kernel_rfl) (by kernel_rfl) (fun _ _ _ h => h) (Or.inl ⟨by rfl, ?th9⟩) (by assumption) ?tr9
          case th9 => (intro w hSw; (try dsimp only at hSw); go_simp; all_goals (with_reducible rfl))
          simp only [Act.put, List.getElem_toArray, List.getElem_cons_zero, List.getElem_cons_succ, List.setIfInBounds_toArray, List.set_cons_zero, List.set_cons_succ]
          refine wpAnyH_take (i := 9) (v := ?tv10) rfl (by kernel_rfl) (by kernel_rfl) (by kernel_rfl) (fun _ _ _ h => h) (Or.inl ⟨by rfl, ?th10⟩) (by assumption) ?tr10
          case th10 => (intro w hSw; (try dsimp only at hSw); go_simp; all_goals (with_reducible rfl))
          simp only [Act.put, List.getElem_toArray, List.getElem_cons_zero, List.getElem_cons_succ, List.setIfInBounds_toArray, List.set_cons_zero, List.set_cons_succ]
          refine wpAnyH_take (i := 10) (v := ?tv11) rfl (by kernel_rfl) (by kernel_rfl) (by kernel_rfl) (fun _ _ _ h => h) (Or.inl ⟨by rfl, ?th11⟩) (by assumption) ?tr11
          case th11 => (intro w hSw; (try dsimp only at hSw); go_simp; all_goals (with_reducible rfl))
          simp only [Act.put, List.getElem_toArray, List.getElem_cons_zero, List.getElem_cons_succ, List.setIfInBounds_toArray, List.set_cons_zero, List.set_cons_succ]
          refine wpAnyH_take (i := 11) (v := ?tv12) rfl (by kernel_rfl) (by kernel_rfl) (by kernel_rfl) (fun _ _ _ h => h) (Or.inl ⟨by rfl, ?th12⟩) (by assumption) ?tr12
          case th12 => (intro w hSw; (try dsimp only at hSw); go_simp; all_goals (with_reducible rfl))
          simp only [Act.put, List.getElem_toArray, List.getElem_cons_zero, List.getElem_cons_succ, List.setIfInBounds_toArray, List.set_cons_zero, List.set_cons_succ]
          refine wpAnyH_take (i := 12) (v := ?tv13) rfl (by kernel_rfl) (by kernel_rfl) (by kernel_rfl) (fun _ _ _ h => h) (Or.inl ⟨by rfl, ?th13⟩) (by assumption) ?tr13
          case th13 => (intro w hSw; (try dsimp only at hSw); go_simp; all_goals (with_reducible rfl))
          simp only [Act.put, List.getElem_toArray, List.getElem_cons_zero, List.getElem_cons_succ, List.setIfInBounds_toArray, List.set_cons_zero, List.set_cons_succ]
          refine wpAnyH_take (i := 13) (v := ?tv14) rfl (by kernel_rfl) (by kernel_rfl) (by kernel_rfl) (fun _ _ _ h => h) (Or.inl ⟨by rfl, ?th14⟩) (by assumption) ?tr14
          case th14 => (intro w hSw; (try dsimp only at hSw); go_simp; all_goals (with_reducible rfl))
          simp only [Act.put, List.getElem_toArray, List.getElem_cons_zero, List.getElem_cons_succ, List.setIfInBounds_toArray, List.set_cons_zero, List.set_cons_succ]
          refine wpAnyH_ready (rs := [14]) (by kernel_rfl) (by simp) ?_
          refine AllReadyH.cons rfl (fun K hK => ?_) AllReadyH.nil
          go_simp
          refine (KP.out _).mono ?_
          rintro r w3 ⟨g3, cp3, rfl, htx3, hg3, hb3⟩
          have W3 := hid (H2.out.drew.below hb3)
          have hc3 := htx3.cell 0 s rfl
          rw [Nat.zero_add] at hc3
          have GG3 := hid (GG2.out.trans ((Goes.refl _ w2).drew.trans (Goes.below' hb3)))
          refine hK.out _ _ (SH.out _ _ _ W3.out) (fun hHeld => ?_)
          clear hK K hb3 htx3 hg3
          refine wpAnyH_take (i := 15) (v := ?tv15) rfl (by kernel_rfl) (by kernel_rfl) (by kernel_rfl) (fun _ _ _ h => h) (Or.inl ⟨by rfl, ?th15⟩) (by assumption) ?tr15
          case th15 => (intro w hSw; (try dsimp only at hSw); go_simp; all_goals (with_reducible rfl))
          simp only [Act.put, List.getElem_toArray, List.getElem_cons_zero, List.getElem_cons_succ, List.setIfInBounds_toArray, List.set_cons_zero, List.set_cons_succ]
          refine wpAnyH_ready (rs := [16]) (by kernel_rfl) (by simp) ?_
          refine AllReadyH.cons rfl (fun K hK => ?_) AllReadyH.nil
          go_simp
          refine hK.out _ _ (SH.out _ _ _ W3.out) (fun hHeld => ?_)
          clear hK K
          refine wpAnyH_ready (rs := [17]) (by kernel_rfl) (by simp) ?_
          refine AllReadyH.cons rfl (fun K hK => ?_) AllReadyH.nil
          go_simp
          refine (KW.out _ W3.out).mono ?_
          rintro r w4 ⟨F4, rfl, h4, g4⟩
          have W4 := hid h4
          have GG4 := hid (GG3.out.trans g4)
          refine hK.out _ _ (SH.out _ _ _ W4.out) (fun hHeld => ?_)
          clear hK K h4 g4
          refine wpAnyH_take (i := 18) (v := ?tv16) rfl (by kernel_rfl) (by kernel_rfl) (by kernel_rfl) (fun _ _ _ h => h) (Or.inl ⟨by rfl, ?th16⟩) (by assumption) ?tr16
          case th16 => (intro w hSw; (try dsimp only at hSw); go_simp; all_goals (with_reducible rfl))
          simp only [Act.put, List.getElem_toArray, List.getElem_cons_zero, List.getElem_cons_succ, List.setIfInBounds_toArray, List.set_cons_zero, List.set_cons_succ]
          refine wpAnyH_done (by kernel_rfl) ?_ _
          refine NoPanic.normal ?_
          clear hHeld hc3 j0 j1 j3 W3 GG3 KW KP GG2 H2 SH
          by_cases hc : c3 = 0
          · subst hc
            have KF2 := KF.out w4 F4 D3 W4.out
            have j0 := W4.out.l0
            have HS2 := HSC.out
            rw [if_pos rfl] at HS2
            obtain ⟨c5, D5, hX5⟩ : ∃ c D5, D3.flush = (c, D5) := ⟨_, _, rfl⟩
            rw [hX5] at KF2 HS2
            simp only at HS2
            have KF3 := hid KF2
            have HS3 := hid HS2
            clear KF KF2 HS2 HSC hX5
            go_wp2_with fail
            refine KF3.out.mono ?_
            rintro r w5 ⟨F5, rfl, h5, g5⟩
            by_cases hc5 : c5 = 0
            · subst hc5
              have HY4 : Hid (Y = (0, D5, { G1 with count := 1, used := 2 })) := by show _ = _; rw [HY3.out, HS3.out, wlOnly, if_pos rfl, heed_zero]
              have m4 := h5.l4
              have m5 := h5.l5
              have f4 := h5.lf 4
              have f5 := h5.lf 5
              have c45 := h5.cell45 2 1
              have S5 := h5.set (G' := { G1 with count := 1, used := 2 }) ⟨h5.ok.n2, h5.ok.fit, h5.ok.top, by show 1 < 2; omega, h5.ok.n2⟩ c45
              have HS := hid S5
              have GG5 := hid ((GG4.out.trans g5).trans S5.2)
              clear h5 g5 c45 S5 KF3 HS3
              go_wp2_with fail
              refine (KH.out _ _ _ _ HS.out.1 0).mono ?_
              rintro r w6 ⟨rfl, h6, g6⟩
              rw [heed_zero] at h6
              have H6 := hid h6
              have G6 := hid g6
              clear h6 g6
              go_wp2_with fail
              go_ret
              rw [HY4.out]
              exact ⟨F5, rfl, H6.out, GG5.out.trans G6.out⟩
            · have hc5' : (c5 == 0) = false := by simpa using hc5
              have HY4 : Hid (Y = (c5, D5, G1.heed c5)) := by show _ = _; rw [HY3.out, HS3.out, wlOnly, if_neg hc5]
              have H5 := hid h5
              have GG5 := hid (GG4.out.trans g5)
              clear h5 g5 KF3 HS3
              go_wp2_with fail
              refine (KH.out _ _ _ _ H5.out c5).mono ?_
              rintro r w6 ⟨rfl, h6, g6⟩
              have H6 := hid h6
              have G6 := hid g6
              clear h6 g6
              go_wp2_with fail
              go_ret
              rw [HY4.out]
              exact ⟨F5, rfl, H6.out, GG5.out.trans G6.out⟩
          · have hc' : (c3 == 0) = false := by simpa using hc
            have HY4 : Hid (Y = (c3, D3, G1.heed c3)) := by show _ = _; rw [HY3.out, HSC.out, if_neg hc, wlOnly, if_neg hc]
            clear HSC KF
            go_wp2_with fail
            refine (KH.out _ _ _ _ W4.out c3).mono ?_
            rintro r w6 ⟨rfl, h6, g6⟩
            have H6 := hid h6
            have G6 := hid g6
            clear h6 g6
            go_wp2_with fail
            go_ret
            rw [HY4.out]
            exact ⟨F4, rfl, H6.out, GG4.out.trans G6.out⟩
        · have HY3 : Hid (Y = (c1, D1, G1)) := by show _ = _; rw [HY2.out, wlReset1, if_neg hc1]
          have hc1' : (c1 != 0) = true := by simpa using hc1
          go_wp2_with fail
          go_ret
          rw [HY3.out]
          exact ⟨F2, rfl, H2.out, GG2.out⟩

end Go.Proofs.Ythfpinjegfgeiaa
