/- A log on a disk: Append and Reset, walked. -/
import Derived.Test.YthfpinjegfgeiaaWalLog
namespace Go.Proofs.Ythfpinjegfgeiaa
open Go Go.RowKit
set_option maxRecDepth 100000

def wlAll (D : SD) (G : LG) (a : Nat) : List ByteArray → Int × SD × LG
  | [] => (0, D, G)
  | s :: r => if (wlWrite D G a s).1 = 0 then wlAll (wlWrite D G a s).2.1 (wlWrite D G a s).2.2 (a + 1) r else wlWrite D G a s
def wlMore (k : Nat) (x : Int × SD × LG) : Int × SD × LG := if x.1 = 0 then (0, x.2.1, { x.2.2 with count := x.2.2.count + 1, used := x.2.2.used + k }) else x
def parts (e n : Nat) (t : ByteArray) : List ByteArray := (Wl.secsOf (e : Int) (n : Int) t.data.toList).map ba
def wlAppend (D : SD) (G : LG) (t : ByteArray) : Int × SD × LG :=
  if G.sound = false then (10, D, G) else if 300 < t.size then (2, D, G)
  else if G.n < G.used + (parts G.epoch G.count t).length then (8, D, G)
  else wlMore (parts G.epoch G.count t).length (wlAll D G G.used (parts G.epoch G.count t))

theorem wlWrite_ok {D : SD} {G : LG} {a : Nat} {s : ByteArray} (h : (wlWrite D G a s).1 = 0) : (wlWrite D G a s).2.2 = G := by
  have h' : (D.write ((G.frm : Int) + a) s).1 = 0 := h
  show G.heed (D.write ((G.frm : Int) + a) s).1 = G
  rw [h', heed_zero]
theorem wlWrite_len (D : SD) (G : LG) (a : Nat) (s : ByteArray) : (wlWrite D G a s).2.1.loose.length ≤ D.loose.length + 1 := by
  show (D.write ((G.frm : Int) + a) s).2.loose.length ≤ _
  unfold SD.write
  repeat' split
  all_goals (try (show D.loose.length ≤ _; omega))
  show (D.burn.loose ++ [_]).length ≤ _
  have : D.burn.loose = D.loose := by unfold SD.burn; split <;> rfl
  rw [List.length_append, this]
  simp

/-- How it stands behind k sectors that were written. -/
structure AppAt (w wr : World) (lb : Nat) (p : DP) (D : SD) (G : LG) (g c : Nat) (S : List ByteArray) (k : Nat) (p' : DP) (D' : SD) : Prop where
  hp : p'.b = p.b
  wal : WalAt wr lb p' D' G
  tx : TxAt wr g 0 c S
  far : ¬ wown p' lb g
  eq : wlAll D G G.used S = wlAll D' G (G.used + k) (S.drop k)
  goes : Goes (wown p lb) w wr (wown p' lb)
  few : D'.loose.length ≤ D.loose.length + k

theorem AppAt.next {w wr : World} {lb : Nat} {p : DP} {D : SD} {G : LG} {g c : Nat} {S : List ByteArray} {k : Nat} {p' : DP} {D' : SD} (h : AppAt w wr lb p D G g c S k p' D') {s : ByteArray} (hs : S[k]? = some s) {p2 : DP} {w2 : World}
    (hp2 : p2.b = p'.b) (h2 : WalAt w2 lb p2 (wlWrite D' G (G.used + k) s).2.1 (wlWrite D' G (G.used + k) s).2.2) (g2 : Goes (wown p' lb) wr w2 (wown p2 lb)) :
    ((wlWrite D' G (G.used + k) s).1 = 0 → AppAt w w2 lb p D G g c S (k + 1) p2 (wlWrite D' G (G.used + k) s).2.1) ∧
    ((wlWrite D' G (G.used + k) s).1 ≠ 0 → wlAll D G G.used S = wlWrite D' G (G.used + k) s) := by
  have hk : k < S.length := (List.getElem?_eq_some_iff.1 hs).1
  have e1 : S.drop k = s :: S.drop (k + 1) := by
    rw [List.drop_eq_getElem_cons hk]
    congr 1
    exact (List.getElem?_eq_some_iff.1 hs).2
  have e2 := h.eq
  rw [e1, wlAll] at e2
  constructor
  · intro h0
    have e3 := wlWrite_ok h0
    rw [if_pos h0, e3] at e2
    rw [e3] at h2
    refine ⟨hp2.trans h.hp, h2, h.tx.keep (g2.block g h.tx.lt h.far), fun e => ?_, e2, h.goes.trans g2, ?_⟩
    · rcases g2.grow g e with e | e
      · exact h.far e
      · have := h.tx.lt; omega
    · have := wlWrite_len D' G (G.used + k) s
      have := h.few
      omega
  · intro h0
    rw [if_neg h0] at e2
    exact e2

set_option maxHeartbeats 4000000 in
theorem append_any (w : World) (lb : Nat) (p : DP) (D : SD) (G : LG) (h : WalAt w lb p D G) (t : ByteArray) (hf : D.loose.length ≤ 2999999999000) :
    Calls Try.prog 36 #[.pointer (some ⟨lb, 0, none⟩), .string t] w (WPost w lb p (wlAppend D G t)) := by
  have l6 := h.l6
  unfold wlAppend
  have H := hid h
  by_cases hs : G.sound = false
  · rw [if_pos hs]
    rw [hs] at l6
    clear h hs
    go_enter Try.func36, Try.ntmps36
    go_wp2_with fail
    go_ret
    exact ⟨p, rfl, rfl, H.out, Goes.refl _ _⟩
  · rw [if_neg hs]
    have hs' : G.sound = true := by simpa using hs
    rw [hs'] at l6
    clear hs hs'
    by_cases ht : 300 < t.size
    · rw [if_pos ht]
      have ht' : (300 : Int) < (t.size : Int) := by omega
      clear h
      go_enter Try.func36, Try.ntmps36
      go_wp2_with fail
      go_ret
      exact ⟨p, rfl, rfl, H.out, Goes.refl _ _⟩
    · rw [if_neg ht]
      have ht' : (t.size : Int) ≤ 300 := by omega
      have l3 := h.l3
      have l4 := h.l4
      have l3' : w.drew.cell? ⟨lb, 3, none⟩ = some (.int .i64 (G.epoch : Int)) := h.drew.l3
      have l4' : w.drew.cell? ⟨lb, 4, none⟩ = some (.int .i64 (G.count : Int)) := h.drew.l4
      have htop := h.ok.top
      have hfit := h.ok.fit
      have hcnt := h.ok.cnt
      have huse := h.ok.use
      have KP := hid fun W => putRecord_any t (G.epoch : Int) (G.count : Int) W (by omega) (by unfold Wl.I64; omega) (by unfold Wl.I64; omega)
      have eP : (Wl.secsOf (G.epoch : Int) (G.count : Int) t.data.toList).length = (parts G.epoch G.count t).length := by unfold parts; rw [List.length_map]
      rw [show (Wl.secsOf (G.epoch : Int) (G.count : Int) t.data.toList).map ba = parts G.epoch G.count t from rfl, eP] at KP
      clear eP
      have hS0 : 0 < (parts G.epoch G.count t).length := by
        obtain ⟨f, _, h⟩ := Wl.secs_cons (G.epoch : Int) (G.count : Int) t.data.toList
        unfold parts
        rw [h]
        simp
      generalize parts G.epoch G.count t = S at *
      have KR := hid fun W (hW : WalAt W lb p D G) => room_any W lb p D G hW
      obtain ⟨Y, hY⟩ : ∃ Y, Y = if G.n < G.used + S.length then (8, D, G) else wlMore S.length (wlAll D G G.used S) := ⟨_, rfl⟩
      rw [← hY]
      have HY := hid hY
      clear h ht hY
      go_enter Try.func36, Try.ntmps36
      go_wp2_with fail
      go_region_held3 (fun W => W.cell? ⟨lb, 3, none⟩ = some (.int .i64 (G.epoch : Int)) ∧ W.cell? ⟨lb, 4, none⟩ = some (.int .i64 (G.count : Int)))
        (first | (go_split_ands; exact ⟨by assumption, by assumption⟩))
        ((go_at_call 67; refine (KP.out _).mono ?_; rintro r w1 ⟨g, c, rfl, htx, hg, hb1⟩; have B1 := hid hb1; have TX := hid htx; have m3 := (H.out.drew.below hb1).l3; have m4 := (H.out.drew.below hb1).l4; clear hb1 htx))
      all_goals skip
      have W1 := hid (H.out.drew.below B1.out)
      have GO1 : Hid (Goes (wown p lb) w w1 (wown p lb)) := (Goes.refl _ w).drew.trans (Goes.below' B1.out)
      have FG : Hid (¬ wown p lb g) := fun e => by have := H.out.own_lt g e; have hg' : w.heap.size ≤ g := hg; omega
      clear H B1 l3' l4' l3 l4 l6 hg KP m3 m4
      have hcap : S.length ≤ 9223372036854775807 := by have := TX.out.len; have := TX.out.cap; unfold maxLen at this; omega
      go_wp2_with fail
      refine (KR.out _ W1.out).mono ?_
      rintro r w2 ⟨rfl, hb2⟩
      have B2 := hid hb2
      clear hb2 KR
      by_cases hfull : G.n < G.used + S.length
      · have HY8 : Hid (Y = (8, D, G)) := by show _ = _; rw [HY.out, if_pos hfull]
        have hq : decide ((G.n : Int) - (G.used : Int) < (S.length : Int)) = true := by simp; omega
        have hq2 : (G.n : Int) - (G.used : Int) < (S.length : Int) := by omega
        have W2 := hid (W1.out.below B2.out)
        go_wp2_with fail
        go_ret
        rw [HY8.out]
        exact ⟨p, rfl, rfl, W2.out, GO1.out.trans (Goes.below' B2.out)⟩
      · have HY9 : Hid (Y = wlMore S.length (wlAll D G G.used S)) := by show _ = _; rw [HY.out, if_neg hfull]
        have hq : decide ((G.n : Int) - (G.used : Int) < (S.length : Int)) = false := by simp; omega
        have hq2 : ¬ (G.n : Int) - (G.used : Int) < (S.length : Int) := by omega
        have A0 : Hid (AppAt w w2 lb p D G g c S 0 p D) := ⟨rfl, W1.out.below B2.out, TX.out.keep (B2.out.block g TX.out.lt), FG.out, rfl, GO1.out.trans (Goes.below' B2.out), Nat.le_refl _⟩
        clear W1 B2 TX FG GO1
        go_wp2_with fail
        go_loopw [34] (fun i wr => ∃ (k : Nat) (p' : DP) (D' : SD), k ≤ S.length ∧ i = .int .i64 (k : Int) ∧ Hid (AppAt w wr lb p D G g c S k p' D')) (fun i _ => S.length - (intOf i).toNat)
        case atStart => exact ⟨0, p, D, Nat.zero_le _, rfl, A0⟩
        case round =>
          clear A0
          obtain ⟨k, p', D', hk, rfl, ha⟩ := hrel
          by_cases hlt : k < S.length
          · obtain ⟨s, hs⟩ : ∃ s, S[k]? = some s := ⟨_, List.getElem?_eq_getElem hlt⟩
            have hc := ha.out.tx.cell k s hs
            rw [Nat.zero_add] at hc
            have l5 := ha.out.wal.l5
            have k0 : (0 : Int) ≤ (k : Int) := by omega
            have k1 : (k : Int) < (S.length : Int) := by omega
            have KW := hid (lwrite_any wr lb p' D' G ha.out.wal (G.used + k) (by omega) s (by unfold few; have := ha.out.few; omega))
            rw [show ((G.used + k : Nat) : Int) = (G.used : Int) + (k : Int) by omega] at KW
            have hu : (G.used : Int) ≤ 256 := by omega
            have hks : (k : Int) ≤ 256 := by omega
            by_cases h0 : (wlWrite D' G (G.used + k) s).1 = 0
            · go_wp2_with fail
              refine KW.out.mono ?_
              rintro r w3 ⟨p3, hp3, rfl, h3, g3⟩
              have NX := hid ((ha.out.next hs hp3 h3 g3).1 h0)
              rw [h0]
              clear h3 g3 hp3 KW hc l5
              go_wp2_with fail
              go_roundw
              case rel => exact ⟨k + 1, p3, _, by omega, by go_num, NX⟩
              case measure => simp [intOf]; omega
            · go_wp2_with fail
              refine KW.out.mono ?_
              rintro r w3 ⟨p3, hp3, rfl, h3, g3⟩
              have NX := (ha.out.next hs hp3 h3 g3).2 h0
              have HYX : Hid (Y = wlWrite D' G (G.used + k) s) := by show _ = _; rw [HY9.out, NX]; unfold wlMore; rw [if_neg h0]
              have HG := hid (ha.out.goes.trans g3)
              have HP := hid (hp3.trans ha.out.hp)
              have H3 := hid h3
              clear h3 g3 hp3 KW hc l5 NX
              generalize wlWrite D' G (G.used + k) s = X at *
              have h0' : (X.1 != 0) = true := by simpa using h0
              go_wp2_with fail
              go_ret
              rw [HYX.out]
              exact ⟨p3, HP.out, rfl, H3.out, HG.out⟩
          · obtain rfl : k = S.length := by omega
            have e1 := ha.out.eq
            rw [List.drop_length, wlAll] at e1
            have HYX : Hid (Y = (0, D', { G with count := G.count + 1, used := G.used + S.length })) := by show _ = _; rw [HY9.out, e1]; unfold wlMore; rw [if_pos rfl]
            have l4 := ha.out.wal.l4
            have l5 := ha.out.wal.l5
            have f4 := ha.out.wal.lf 4
            have f5 := ha.out.wal.lf 5
            have c45 := ha.out.wal.cell45 (G.count + 1) (G.used + S.length)
            rw [show ((G.count + 1 : Nat) : Int) = (G.count : Int) + 1 by omega, show ((G.used + S.length : Nat) : Int) = (G.used : Int) + (S.length : Int) by omega] at c45
            have hu : (G.used : Int) ≤ 256 := by omega
            have hct : (G.count : Int) ≤ 256 := by omega
            have hSl : (S.length : Int) ≤ 256 := by omega
            have ST := hid (ha.out.wal.set (G' := { G with count := G.count + 1, used := G.used + S.length }) ⟨ha.out.wal.ok.n2, ha.out.wal.ok.fit, ha.out.wal.ok.top, by show G.count + 1 < G.used + S.length; omega, by show G.used + S.length ≤ G.n; omega⟩ c45)
            have HG := hid ha.out.goes
            have HP := hid ha.out.hp
            clear ha c45 e1
            go_wp2_with fail
            go_ret
            rw [HYX.out]
            exact ⟨p', HP.out, rfl, ST.out.1, HG.out.trans ST.out.2⟩

end Go.Proofs.Ythfpinjegfgeiaa
