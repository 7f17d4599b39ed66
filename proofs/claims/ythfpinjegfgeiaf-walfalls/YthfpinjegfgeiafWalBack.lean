/-
  quirkeep.WalBack: whatever is appended: the call returns true, and what was handed in is as it was. Conditions: at most 2^47 bytes of texts (the row's own reach gives it).
-/
import Derived.Test.YthfpinjegfgeiafWalHeld
namespace Go.Proofs.Ythfpinjegfgeiaf
open Go Go.RowKit
set_option maxRecDepth 100000

theorem wlAll_epoch (G : LG) (l : List ByteArray) : ∀ (D : SD) (a : Nat), (wlAll D G a l).2.2.epoch = G.epoch := by
  suffices ∀ (l : List ByteArray) (G : LG) (D : SD) (a : Nat), (wlAll D G a l).2.2.epoch = G.epoch from this l G
  intro l
  induction l with
  | nil => intro G D a; rfl
  | cons s l ih =>
    intro G D a
    rw [wlAll]
    split
    · rw [ih]
      exact heed_epoch _ _
    · exact heed_epoch _ _
theorem wlAppend_epoch (D : SD) (G : LG) (t : ByteArray) : (wlAppend D G t).2.2.epoch = G.epoch := by
  unfold wlAppend wlMore
  repeat' split
  all_goals first | rfl | exact wlAll_epoch _ _ _ _
theorem loose_few {D : SD} {G : LG} {all : List Wl.By} {sf : Nat} (h : Good D G all sf) : D.loose.length ≤ 256 ∧ all.length ≤ 256 := by
  obtain ⟨R0, m0, T, hg, rfl, _⟩ := h
  have hb := hg.base
  have h1 := hb.room
  have h2 := hb.lens.2.2.1
  have h3 := hb.fit
  have h4 := hb.ok.small
  have h5 := (hb.told hg.txt).2.2.2.2
  refine ⟨by rw [hb.loose, mkL_len]; omega, by rw [List.length_append, List.length_map]; exact h5⟩

def aText : ByteArray := ⟨#[97]⟩
theorem first_parts : (parts 1 0 aText).length = 1 := by decide +kernel
theorem first_ok (D : SD) (hg : Good D ⟨2, 20, 1, 0, 1, true⟩ [] 0) (hf : D.fused = false) : (wlAppend D ⟨2, 20, 1, 0, 1, true⟩ aText).1 = 0 ∧ Good (wlAppend D ⟨2, 20, 1, 0, 1, true⟩ aText).2.1 (wlAppend D ⟨2, 20, 1, 0, 1, true⟩ aText).2.2 [[97]] 0 := by
  obtain ⟨_, _, _, h⟩ := hg.append aText
  rcases h with ⟨h1, h2, _⟩ | ⟨h1, _⟩ | ⟨_, _, h1, _⟩
  · exact ⟨h1, h2⟩
  · exfalso
    have e : (wlAppend D ⟨2, 20, 1, 0, 1, true⟩ aText).1 = (wlMore (parts 1 0 aText).length (wlAll D ⟨2, 20, 1, 0, 1, true⟩ 1 (parts 1 0 aText))).1 := by
      unfold wlAppend
      rw [if_neg (by simp), if_neg (by show ¬ 300 < 1; omega), if_neg (by rw [show parts (LG.epoch ⟨2, 20, 1, 0, 1, true⟩) (LG.count ⟨2, 20, 1, 0, 1, true⟩) aText = parts 1 0 aText from rfl, first_parts]; show ¬ 20 < 1 + 1; omega)]
    have hne : ∀ x : Int × SD × LG, (x.1 = 0 ∨ x.1 = 13) → (wlMore (parts 1 0 aText).length x).1 = 0 ∨ (wlMore (parts 1 0 aText).length x).1 = 13 := by
      intro x hx
      unfold wlMore
      rcases hx with hx | hx
      · rw [if_pos hx]; exact .inl rfl
      · rw [if_neg (by rw [hx]; decide)]; exact .inr hx
    have hb := hg
    obtain ⟨R0, m0, T, hq, hall, _⟩ := hb
    have hT : T = [] := List.eq_nil_of_length_eq_zero (by have := congrArg List.length hall; rw [List.length_append, List.length_map] at this; simp at this; omega)
    have hR : R0 = [] := List.eq_nil_of_length_eq_zero (by have := congrArg List.length hall; rw [List.length_append, List.length_map] at this; simp at this; omega)
    subst hT
    subst hR
    have hl := hq.base.lens.2.2.1
    have hI : Wl.I64 1 := by unfold Wl.I64; omega
    have hI0 : Wl.I64 0 := by unfold Wl.I64; omega
    have hsp := all_spec ⟨2, 20, 1, 0, 1, true⟩ (Wl.secsOf 1 0 (bl aText)) D _ 1 hq.base (fun x hx => ⟨secs_le (E := 1) (c := 0) hI hI0 (bl aText) x hx, Wl.secs_ep 1 0 hI (bl aText) _ (List.mem_map_of_mem hx)⟩) (by
      have e : (Wl.secsOf 1 0 (bl aText)).length = 1 := by have := first_parts; unfold parts at this; rw [List.length_map] at this; exact this
      rw [e]
      show 0 + 1 ≤ m0.length
      simp only [Wl.sizes] at hl
      have : LG.n ⟨2, 20, 1, 0, 1, true⟩ = 20 := rfl
      omega) rfl
    have hz : (wlAll D ⟨2, 20, 1, 0, 1, true⟩ 1 (parts 1 0 aText)).1 = 0 ∨ (wlAll D ⟨2, 20, 1, 0, 1, true⟩ 1 (parts 1 0 aText)).1 = 13 := by
      rcases hsp.2 with ⟨q, _⟩ | ⟨q, _⟩
      · exact .inl q
      · exact .inr q
    have hfin := hne _ hz
    rw [← e] at hfin
    rcases hfin with e0 | e0
    · rcases h1 with h1 | h1
      · rw [h1] at e0; exact absurd e0 (by decide)
      · rw [h1] at e0; exact absurd e0 (by decide)
    · rcases h1 with h1 | h1
      · rw [h1] at e0; exact absurd e0 (by decide)
      · rw [h1] at e0; exact absurd e0 (by decide)
  · rw [hf] at h1; cases h1

/-- How it stands ahead of text number k. -/
structure BackAt (w wr : World) (pb lb : Nat) (v : Value) (all : List Wl.By) (p : DP) (D : SD) (G : LG) : Prop where
  held : Held w wr pb lb v all p D G
  good : Good D G all 0
  up : D.fused = false
  frm : G.frm = 2
  n : G.n = 20
  ep : G.epoch = 1

theorem BackAt.told {w wr : World} {pb lb : Nat} {v : Value} {all : List Wl.By} {p : DP} {D : SD} {G : LG} (h : BackAt w wr pb lb v all p D G) : ∃ R m, Told D 2 20 1 R m ∧ R.map (·.text) = all ∧ getA (D.seen.getD 2 ⟨#[]⟩) = (((1 : Nat) : Int), true) := by
  obtain ⟨R0, m0, T, hg, rfl, _⟩ := h.good
  have hb := hg.base
  have hq := hg.txt
  rw [h.frm, h.n, h.ep] at hb
  exact ⟨_, _, hb.toTold hq, by rw [List.map_append, Wl.recs_text], by rw [hb.ancQ]; exact getA_anchor 1 (by omega)⟩

set_option maxHeartbeats 4000000 in
theorem back_walk (w : World) (da : Option Addr) (dc : Nat) (X : List ByteArray) (hX : SlAt w da X) (hXn : X.length ≤ 140737488355328) :
    Calls Try.prog 6 #[.slice da X.length dc] w fun e w' => e = .returned (.bool true) ∧ Below w.heap.size w w' := by
  have K0 := hid (logged_any w)
  have HX := hid hX
  obtain ⟨i0, hi, hz0, hz1, hz2⟩ := info_parts tx_info
  clear hX
  go_enter Try.func6, Try.ntmps6
  go_wp2_with fail
  refine K0.out.mono ?_
  rintro r w1 ⟨p, lb, v, D, rfl, hH, hG, hF, hL⟩
  have KA := append_any w1 lb p D ⟨2, 20, 1, 0, 1, true⟩ hH.wal aText (by rw [hL]; simp)
  obtain ⟨c0, g0⟩ := first_ok D hG hF
  have ff := (hG.append aText).1
  have fr := (hG.append aText).2.1
  have fn := (hG.append aText).2.2.1
  have fe := wlAppend_epoch D ⟨2, 20, 1, 0, 1, true⟩ aText
  obtain ⟨c, D1, G1, hx⟩ : ∃ c D1 G1, wlAppend D ⟨2, 20, 1, 0, 1, true⟩ aText = (c, D1, G1) := ⟨_, _, _, rfl⟩
  rw [hx] at KA c0 g0 ff fr fn fe
  simp only at c0 g0 ff fr fn fe
  subst c0
  have KA' := hid KA
  have HH := hid hH
  have HG0 := hid g0
  have HFF := hid (ff.trans hF)
  have HFR := hid fr
  have HFN := hid fn
  have HFE := hid fe
  clear hH hG hF hL KA ff fr fn fe hx g0 K0
  generalize p.b = pb at *
  go_wp2_with fail
  refine KA'.out.mono ?_
  rintro r w2 ⟨p2, hp2, rfl, h2, g2⟩
  have B2 : Hid (BackAt w (w2.alloc (.cells #[.string ⟨#[97]⟩] 9)) pb lb (.slice (some ⟨w2.heap.size, 0, none⟩) 1 1) [[97]] p2 D1 G1) := by
    have hs := HH.out.step hp2 h2 g2
    exact ⟨hs.one (Below.refl _ w2) [97], HG0.out, HFF.out, HFR.out, HFN.out, HFE.out⟩
  clear hp2 h2 g2 KA' HH HG0 HFF HFR HFN HFE
  go_wp2_with fail
  go_loopw [6, 28] (fun v i wr => ∃ (k : Nat) (all : List Wl.By) (p : DP) (D : SD) (G : LG), k ≤ X.length ∧ i = .int .i64 (k : Int) ∧ Hid (BackAt w wr pb lb v all p D G)) (fun _ i _ => X.length - (intOf i).toNat)
  case atStart => exact ⟨0, [[97]], p2, D1, G1, Nat.zero_le _, rfl, B2⟩
  case round =>
    clear B2
    obtain ⟨k, all, p, D, G, hk, rfl, hb⟩ := hrel
    by_cases hlt : k < X.length
    · obtain ⟨t, ht⟩ : ∃ t, X[k]? = some t := ⟨_, List.getElem?_eq_getElem hlt⟩
      obtain ⟨b, o, rfl, hc⟩ := (HX.out.below hb.out.held.old) k t ht
      have k0 : (0 : Int) ≤ (k : Int) := by omega
      have k1 : (k : Int) < (X.length : Int) := by omega
      have KR := hid fun W (hW : Below wr.heap.size wr W) => room_any W lb p D G (hb.out.held.below hW).wal
      obtain ⟨q1, q2⟩ := loose_few hb.out.good
      have KA := fun W (hW : Below wr.heap.size wr W) => append_any W lb p D G (hb.out.held.below hW).wal t (by omega)
      obtain ⟨f1, f2, f3, hcase⟩ := hb.out.good.append t
      have fe := wlAppend_epoch D G t
      obtain ⟨c, D', G', hx⟩ : ∃ c D' G', wlAppend D G t = (c, D', G') := ⟨_, _, _, rfl⟩
      rw [hx] at KA f1 f2 f3 hcase fe
      simp only at f1 f2 f3 hcase fe
      have KA' := hid KA
      have hGn : G.n = 20 := hb.out.n
      have hGu : G.used ≤ 20 := by rw [← hGn]; exact hb.out.held.wal.ok.use
      have hfu : D.fused = false := hb.out.up
      clear KA hx ht
      rcases hcase with ⟨rfl, hg, hu⟩ | ⟨hc0, he⟩ | ⟨_, _, hbad, _⟩
      · have HG := hid hg
        have FR : Hid (G'.frm = 2 ∧ G'.n = 20 ∧ G'.epoch = 1 ∧ D'.fused = false) := ⟨f2.trans hb.out.frm, f3.trans hb.out.n, fe.trans hb.out.ep, f1.trans hb.out.up⟩
        have hGn' : G'.n = 20 := FR.out.2.1
        have hu1 : (G.used : Int) < (G'.used : Int) := by omega
        have q0 : decide ((20 : Int) - (G.used : Int) ≤ (20 : Int) - (G'.used : Int)) = false := by simp; omega
        have hu2 : (G.used : Int) ≤ 20 := by omega
        have BB := hb
        have hrl : (all.map ba).length = all.length := List.length_map ..
        clear hb hg f1 f2 f3 fe hfu
        go_wp2_with fail
        refine (KR.out _ (Below.refl _ _)).mono ?_
        rintro r w3 ⟨rfl, hb3⟩
        have B3 := hid hb3
        clear hb3 KR
        go_wp2_with fail
        refine (KA'.out _ B3.out).mono ?_
        rintro r w4 ⟨p4, hp4, rfl, h4, g4⟩
        have H4 := hid ((BB.out.held.below B3.out).step hp4 h4 g4)
        have hGu' : (G'.used : Int) ≤ 20 := by have hx' : G'.used ≤ G'.n := h4.ok.use; omega
        have q3 : decide ((20 : Int) - (G'.used : Int) < 0) = false := by simp; omega
        clear hp4 h4 g4 KA' B3
        go_wp2_with (at_builtin; refine wpList_append_own_at _ rfl _ _ 40 rfl w.heap.size 9 i0 (.string ⟨#[]⟩) 1 16 Try.underlying40 hi hz0 hz1 hz2 rfl (by decide) _ _ _ rfl (H4.out.row.alloc _) ⟨w4.heap.size, 0, none⟩ 1 1 [.string t] rfl rfl ?c1 ?c2 ?c3 ?c4 ?c5 ?_)
        case c1 => exact news_str w4 t
        case c2 => exact cell_str _
        case c3 => unfold maxLen; omega
        case c4 => omega
        case c5 => have := H4.out.goes.size; simp; omega
        · intro v' w5 hown hgrow _ hat
          have H5 := H4.out.push (t := bl t) (Below.refl _ w4) (by rw [ba_bl, hrl, List.map_map]; exact hown) hgrow (by simpa using hat)
          have HH5 := hid H5
          have KR5 := hid fun W (hW : Below w5.heap.size w5 W) => room_any W lb p4 D' G' (HH5.out.below hW).wal
          rw [hGn'] at KR5
          clear hown hgrow hat H5 H4
          go_wp2_with fail
          refine (KR5.out _ (Below.refl _ _)).mono ?_
          rintro r w6 ⟨rfl, hb6⟩
          have B6 := hid hb6
          clear hb6
          go_wp2_with fail
          refine (KR5.out _ B6.out).mono ?_
          rintro r w7 ⟨rfl, hb7⟩
          have B7 := hid (below_tr B6.out hb7)
          clear hb7
          have NX : Hid (BackAt w w7 pb lb v' (all ++ [bl t]) p4 D' G') := ⟨HH5.out.below B7.out, HG.out, FR.out.2.2.2, FR.out.1, FR.out.2.1, FR.out.2.2.1⟩
          go_wp2_with fail
          go_roundw
          case rel => exact ⟨k + 1, _, p4, D', G', by omega, by go_num, NX⟩
          case measure => simp [intOf]; omega
      · obtain ⟨rfl, rfl⟩ : D' = D ∧ G' = G := by injection he with a1 a2; exact ⟨a1, a2⟩
        have BB := hb
        clear hb f1 f2 f3 fe hfu he
        have q0 : ((20 : Int) - (G'.used : Int) != (20 : Int) - (G'.used : Int)) = false := by simp
        have hu2 : (G'.used : Int) ≤ 20 := by omega
        rcases hc0 with rfl | rfl
        · go_wp2_with fail
          refine (KR.out _ (Below.refl _ _)).mono ?_
          rintro r w3 ⟨rfl, hb3⟩
          have B3 := hid hb3
          clear hb3
          go_wp2_with fail
          refine (KA'.out _ B3.out).mono ?_
          rintro r w4 ⟨p4, hp4, rfl, h4, g4⟩
          have H4 := hid ((BB.out.held.below B3.out).step hp4 h4 g4)
          have KR5 := hid fun W (hW : Below w4.heap.size w4 W) => room_any W lb p4 D' G' (H4.out.below hW).wal
          clear hp4 h4 g4 KA' B3 KR
          rw [hGn] at KR5
          go_wp2_with fail
          refine (KR5.out _ (Below.refl _ _)).mono ?_
          rintro r w6 ⟨rfl, hb6⟩
          have NX : Hid (BackAt w w6 pb lb _ all p4 D' G') := ⟨H4.out.below hb6, BB.out.good, BB.out.up, BB.out.frm, BB.out.n, BB.out.ep⟩
          clear hb6
          go_wp2_with fail
          go_roundw
          case rel => exact ⟨k + 1, _, p4, D', G', by omega, by go_num, NX⟩
          case measure => simp [intOf]; omega
        · go_wp2_with fail
          refine (KR.out _ (Below.refl _ _)).mono ?_
          rintro r w3 ⟨rfl, hb3⟩
          have B3 := hid hb3
          clear hb3
          go_wp2_with fail
          refine (KA'.out _ B3.out).mono ?_
          rintro r w4 ⟨p4, hp4, rfl, h4, g4⟩
          have H4 := hid ((BB.out.held.below B3.out).step hp4 h4 g4)
          have KR5 := hid fun W (hW : Below w4.heap.size w4 W) => room_any W lb p4 D' G' (H4.out.below hW).wal
          clear hp4 h4 g4 KA' B3 KR
          rw [hGn] at KR5
          go_wp2_with fail
          refine (KR5.out _ (Below.refl _ _)).mono ?_
          rintro r w6 ⟨rfl, hb6⟩
          have NX : Hid (BackAt w w6 pb lb _ all p4 D' G') := ⟨H4.out.below hb6, BB.out.good, BB.out.up, BB.out.frm, BB.out.n, BB.out.ep⟩
          clear hb6
          go_wp2_with fail
          go_roundw
          case rel => exact ⟨k + 1, _, p4, D', G', by omega, by go_num, NX⟩
          case measure => simp [intOf]; omega
      · rw [hfu] at hbad; cases hbad
    · obtain rfl : k = X.length := by omega
      have j1 : decide ((X.length : Int) < (X.length : Int)) = false := by simp
      obtain ⟨R, m, hT, hR, hA⟩ := hb.out.told
      have KO := open_told wr p D hb.out.held.wal.disk 2 20 1 R m hT (by omega) hb.out.up hA (by unfold few; have := (loose_few hb.out.good).1; omega)
      rw [hb.out.held.hp] at KO
      have KO' := hid KO
      have HR := hid hR
      clear hT hR hA KO
      go_wp2_with fail
      refine KO'.out.mono ?_
      rintro r w3 hpost
      rcases hpost with ⟨e, _⟩ | ⟨_, p', lb', v', D', G', hp, rfl, hw, hg, _, _, _, hrow, hfar, hgo, _⟩
      · omega
      · have hH := hb.out.held.anew hp hw hrow hfar hgo
        rw [HR.out] at hH
        have hrow0 := hb.out.held.row
        have hne : ∀ kk, u6.ownBlock = some kk → kk < wr.heap.size ∧ ¬ p.own kk := fun kk hk => ⟨(hrow0.lt kk hk).2, fun e => hb.out.held.far kk hk (.inl e)⟩
        have hrow3 : w3.ownsRow w.heap.size 9 1 u6 (all.map ba).length ((all.map ba).map Value.string) := ownsRow_of_block hrow0 (fun kk hk => hgo.block kk (hne kk hk).1 (hne kk hk).2)
        obtain ⟨a1, c1, e1, s1⟩ := SlAt.own' hH.row
        obtain ⟨a2, c2, e2, s2⟩ := SlAt.own' hrow3
        subst e1
        subst e2
        have hal : (all.map ba).length ≤ 256 := by rw [List.length_map]; exact (loose_few hb.out.good).2
        have KE := hid (equal_any w3 a1 a2 c1 c2 (all.map ba) (all.map ba) s1 s2 (by omega) (by omega))
        have HB : Hid (Below w.heap.size w w3) := hH.old
        clear hH hrow0 hne hrow3 s1 s2 hrow hfar hgo hw hg hp hb HR
        rw [decide_eq_true rfl] at KE
        generalize all.map ba = L at *
        go_wp2_with fail
        refine KE.out.mono ?_
        rintro r w4 ⟨rfl, hb4⟩
        have B4 := hid hb4
        clear hb4
        go_wp2_with fail
        go_ret
        exact ⟨rfl, HB.out.trans (B4.out.mono HB.out.size)⟩

end Go.Proofs.Ythfpinjegfgeiaf
