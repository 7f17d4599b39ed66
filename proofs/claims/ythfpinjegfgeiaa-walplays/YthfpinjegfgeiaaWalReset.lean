/- A log on a disk: Reset, walked. -/
import Derived.Test.YthfpinjegfgeiaaWalDo
namespace Go.Proofs.Ythfpinjegfgeiaa
open Go Go.RowKit
set_option maxRecDepth 100000

def wlOnly (x : Int × SD × LG) : Int × SD × LG := if x.1 = 0 then (0, x.2.1, { x.2.2 with count := 1, used := 2 }) else x
def wlReset1 (s : ByteArray) (x : Int × SD × LG) : Int × SD × LG := if x.1 = 0 then wlOnly (wlSafe x.2.1 x.2.2 1 s) else x
def wlReset (D : SD) (G : LG) (t : ByteArray) : Int × SD × LG :=
  if G.sound = false then (10, D, G) else if 300 < t.size then (2, D, G)
  else if 1 < (parts (G.epoch + 1) 0 t).length then (8, D, G)
  else wlReset1 ((parts (G.epoch + 1) 0 t).getD 0 ⟨#[]⟩) (wlRaise D G)

theorem wlFlush_len (D : SD) (G : LG) : (wlFlush D G).2.1.loose.length ≤ D.loose.length := by
  show D.flush.2.loose.length ≤ _
  unfold SD.flush
  split
  · exact Nat.le_refl _
  · simp
theorem wlSafe_len (D : SD) (G : LG) (a : Nat) (s : ByteArray) : (wlSafe D G a s).2.1.loose.length ≤ D.loose.length + 1 := by
  have h1 := wlWrite_len D G a s
  unfold wlSafe
  split
  · exact Nat.le_trans (wlFlush_len _ _) h1
  · exact h1
theorem wlRaise_len (D : SD) (G : LG) : (wlRaise D G).2.1.loose.length ≤ D.loose.length + 1 := by
  unfold wlRaise wlUp
  split
  · simp
  · split
    · exact wlSafe_len _ _ _ _
    · exact wlSafe_len _ _ _ _

theorem wlSafe_log (D : SD) (G : LG) (a : Nat) (s : ByteArray) (h : (wlSafe D G a s).1 = 0) : (wlSafe D G a s).2.2 = G := by
  unfold wlSafe at h ⊢
  split
  · rename_i h0
    rw [if_pos h0] at h
    have h1 : (wlWrite D G a s).2.1.flush.1 = 0 := h
    show ((wlWrite D G a s).2.2).heed (wlWrite D G a s).2.1.flush.1 = G
    rw [h1, heed_zero, wlWrite_ok h0]
  · rename_i h0
    rw [if_neg h0] at h
    exact absurd h h0

set_option maxHeartbeats 4000000 in
theorem reset_any (w : World) (lb : Nat) (p : DP) (D : SD) (G : LG) (h : WalAt w lb p D G) (t : ByteArray) (hf : D.loose.length ≤ 2999999999000) :
    Calls Try.prog 40 #[.pointer (some ⟨lb, 0, none⟩), .string t] w (WPost w lb p (wlReset D G t)) := by
  have l6 := h.l6
  have H := hid h
  obtain ⟨Y, hY⟩ : ∃ Y, Y = wlReset D G t := ⟨_, rfl⟩
  rw [← hY]
  have HY := hid hY
  clear hY
  by_cases hs : G.sound = false
  · have HY1 : Hid (Y = (10, D, G)) := by show _ = _; rw [HY.out, wlReset, if_pos hs]
    rw [hs] at l6
    clear h hs
    go_enter Try.func40, Try.ntmps40
    go_wp2_with fail
    go_ret
    rw [HY1.out]
    exact ⟨p, rfl, rfl, H.out, Goes.refl _ _⟩
  · have hs' : G.sound = true := by simpa using hs
    rw [hs'] at l6
    by_cases ht : 300 < t.size
    · have HY1 : Hid (Y = (2, D, G)) := by show _ = _; rw [HY.out, wlReset, if_neg hs, if_pos ht]
      have ht' : (300 : Int) < (t.size : Int) := by omega
      clear h hs hs'
      go_enter Try.func40, Try.ntmps40
      go_wp2_with fail
      go_ret
      rw [HY1.out]
      exact ⟨p, rfl, rfl, H.out, Goes.refl _ _⟩
    · have HY1 : Hid (Y = if 1 < (parts (G.epoch + 1) 0 t).length then (8, D, G) else wlReset1 ((parts (G.epoch + 1) 0 t).getD 0 ⟨#[]⟩) (wlRaise D G)) := by show _ = _; rw [HY.out, wlReset, if_neg hs, if_neg ht]
      have ht' : (t.size : Int) ≤ 300 := by omega
      have l3 := h.l3
      have htop := h.ok.top
      have htop' : (G.epoch : Int) ≤ 1000000 := by omega
      have KP := hid fun W => putRecord_any t ((G.epoch + 1 : Nat) : Int) 0 W (by omega) (by unfold Wl.I64; omega) (by unfold Wl.I64; omega)
      have eP : (Wl.secsOf ((G.epoch + 1 : Nat) : Int) 0 t.data.toList).length = (parts (G.epoch + 1) 0 t).length := by unfold parts; rw [List.length_map]; rfl
      rw [show (Wl.secsOf ((G.epoch + 1 : Nat) : Int) 0 t.data.toList).map ba = parts (G.epoch + 1) 0 t from rfl, eP, show ((G.epoch + 1 : Nat) : Int) = (G.epoch : Int) + 1 by omega] at KP
      have hS0 : 0 < (parts (G.epoch + 1) 0 t).length := by
        obtain ⟨f, _, h⟩ := Wl.secs_cons ((G.epoch + 1 : Nat) : Int) ((0 : Nat) : Int) t.data.toList
        unfold parts
        rw [h]
        simp
      clear eP HY
      generalize parts (G.epoch + 1) 0 t = S at *
      have KR := hid fun W (hW : WalAt W lb p D G) => raise_any W lb p D G hW (by unfold few; omega)
      have hrl := wlRaise_len D G
      clear h ht hs hs'
      go_enter Try.func40, Try.ntmps40
      go_wp2_with fail
      refine (KP.out _).mono ?_
      rintro r w1 ⟨g, c, rfl, htx, hg, hb1⟩
      have B1 := hid hb1
      have TX := hid htx
      have W1 := hid (H.out.below hb1)
      have FG : Hid (¬ wown p lb g) := fun e => by have := H.out.own_lt g e; omega
      have hcap : S.length ≤ 9223372036854775807 := by have := TX.out.len; have := TX.out.cap; unfold maxLen at this; omega
      clear hb1 htx H KP l3 l6 hg
      by_cases hone : 1 < S.length
      · have HY2 : Hid (Y = (8, D, G)) := by show _ = _; rw [HY1.out, if_pos hone]
        have hq : decide ((1 : Int) < (S.length : Int)) = true := by simp; omega
        have hq2 : (1 : Int) < (S.length : Int) := by omega
        go_wp2_with fail
        go_ret
        rw [HY2.out]
        exact ⟨p, rfl, rfl, W1.out, Goes.below' B1.out⟩
      · have HY2 : Hid (Y = wlReset1 (S.getD 0 ⟨#[]⟩) (wlRaise D G)) := by show _ = _; rw [HY1.out, if_neg hone]
        have hone' : S.length = 1 := by omega
        have hq : decide ((1 : Int) < (S.length : Int)) = false := by simp; omega
        obtain ⟨s, rfl⟩ : ∃ s, S = [s] := List.length_eq_one_iff.1 hone'
        obtain ⟨c1, D1, G1, hX⟩ : ∃ c1 D1 G1, wlRaise D G = (c1, D1, G1) := ⟨_, _, _, rfl⟩
        rw [hX] at KR HY2 hrl
        simp only at hrl
        have hcs := TX.out.cell 0 s rfl
        clear HY1 hX hone hq
        have hq1 : ([s] : List ByteArray).length = 1 := rfl
        rw [hq1]
        go_wp2_with fail
        refine (KR.out _ W1.out).mono ?_
        rintro r w2 ⟨p2, hp2, rfl, h2, g2⟩
        have hcs2 := (TX.out.keep (g2.block g TX.out.lt FG.out)).cell 0 s rfl
        rw [Nat.zero_add] at hcs2
        have H2 := hid h2
        have GG2 := hid ((Goes.below' B1.out).trans g2)
        have HP2 := hid hp2
        clear h2 g2 hp2 hcs KR
        by_cases hc1 : c1 = 0
        · subst hc1
          have HY3 : Hid (Y = wlOnly (wlSafe D1 G1 1 s)) := by show _ = _; rw [HY2.out, wlReset1, if_pos rfl]; rfl
          have KS := hid (lsafe_any w2 lb p2 D1 G1 H2.out 1 (by omega) s (by unfold few; omega))
          have hlg := wlSafe_log D1 G1 1 s
          obtain ⟨c3, D3, G3, hX⟩ : ∃ c3 D3 G3, wlSafe D1 G1 1 s = (c3, D3, G3) := ⟨_, _, _, rfl⟩
          rw [hX] at KS HY3 hlg
          simp only at hlg
          clear hX HY2
          go_wp2_with fail
          refine KS.out.mono ?_
          rintro r w3 ⟨p3, hp3, rfl, h3, g3⟩
          by_cases hc3 : c3 = 0
          · subst hc3
            have HY4 : Hid (Y = (0, D3, { G3 with count := 1, used := 2 })) := by show _ = _; rw [HY3.out, wlOnly, if_pos rfl]
            have l4 := h3.l4
            have l5 := h3.l5
            have f4 := h3.lf 4
            have f5 := h3.lf 5
            have c45 := h3.cell45 1 2
            have ST := hid (h3.set (G' := { G3 with count := 1, used := 2 }) ⟨h3.ok.n2, h3.ok.fit, h3.ok.top, by show 1 < 2; omega, h3.ok.n2⟩ c45)
            have GG3 := hid (GG2.out.trans g3)
            have HP3 := hid (hp3.trans HP2.out)
            clear h3 g3 hp3 c45 HY3
            go_wp2_with fail
            go_ret
            rw [HY4.out]
            exact ⟨p3, HP3.out, rfl, ST.out.1, GG3.out.trans ST.out.2⟩
          · have HY4 : Hid (Y = (c3, D3, G3)) := by show _ = _; rw [HY3.out, wlOnly, if_neg hc3]
            have hc3' : (c3 != 0) = true := by simpa using hc3
            have H3 := hid h3
            have GG3 := hid (GG2.out.trans g3)
            have HP3 := hid (hp3.trans HP2.out)
            clear h3 g3 hp3 HY3
            go_wp2_with fail
            go_ret
            rw [HY4.out]
            exact ⟨p3, HP3.out, rfl, H3.out, GG3.out⟩
        · have HY3 : Hid (Y = (c1, D1, G1)) := by show _ = _; rw [HY2.out, wlReset1, if_neg hc1]
          have hc1' : (c1 != 0) = true := by simpa using hc1
          go_wp2_with fail
          go_ret
          rw [HY3.out]
          exact ⟨p2, HP2.out, rfl, H2.out, GG2.out⟩

end Go.Proofs.Ythfpinjegfgeiaa
