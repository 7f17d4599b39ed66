/-
  quirkeep.WalFalls: whatever is done and whatever falls: the call returns true, and what was handed in is as it was. Conditions: at most 2^47 bytes of deeds (the row's own reach gives it).
-/
import Derived.Test.YthfpinjegfgeiafWalFrontF
import Derived.Test.YthfpinjegfgeiafSectDeeds
namespace Go.Proofs.Ythfpinjegfgeiaf
open Go Go.RowKit
set_option maxRecDepth 100000

theorem KeepAt.below {w W : World} {ka : Option Addr} {K : List Bool} (h : KeepAt w ka K) (hb : Below w.heap.size w W) : KeepAt W ka K := fun hne => by
  obtain ⟨kb, ko, e, hc⟩ := h hne
  exact ⟨kb, ko, e, fun j b hj => (hb.cell (p := ⟨kb, ko + j, none⟩) (World.block_lt_of_cell? w _ (hc j b hj))).trans (hc j b hj)⟩
theorem Held.goesOld {w wr W : World} {pb lb : Nat} {v : Value} {all : List Wl.By} {p : DP} {D : SD} {G : LG} {own' : Nat → Prop} (h : Held w wr pb lb v all p D G) (g : Goes p.own wr W own') : Below w.heap.size w W :=
  ⟨g.os.trans h.goes.os, g.tape.trans h.goes.tape, g.output.trans h.goes.output, Nat.le_trans h.goes.size g.size, fun k hk => (g.block k (Nat.lt_of_lt_of_le hk h.goes.size) (fun e => by
    rcases h.goes.grow k (.inl e) with e | e
    · exact e
    · omega)).trans (h.goes.block k hk (fun e => e))⟩
theorem Held.rowGoes {w wr W : World} {pb lb : Nat} {v : Value} {all : List Wl.By} {p : DP} {D : SD} {G : LG} {own' : Nat → Prop} (h : Held w wr pb lb v all p D G) (g : Goes p.own wr W own') : W.ownsRow w.heap.size 9 1 v (all.map ba).length ((all.map ba).map Value.string) :=
  ownsRow_of_block h.row (fun k hk => g.block k (h.row.lt k hk).2 (fun e => h.far k hk (.inl e)))
/-- The deed's own box, behind a call of the log's own. -/
theorem box_at {W W' : World} {own own' : Nat → Prop} {b : Nat} {x0 x1 x2 x3 : Value} {T : TypeId} (h : W.heap[b]? = some (.cells #[x0, x1, x2, x3] T (0, 0))) (g : Goes own W W' own') (hb : ¬ own b) : W'.cell? ⟨b, 2, none⟩ = some x2 := by
  have h' : W'.heap[b]? = some (.cells #[x0, x1, x2, x3] T (0, 0)) := (g.block b (lt_of_heap h) hb).trans h
  rw [cell_of_row W' _ _ _ _ _ h']
  rfl

theorem first_sync {D : SD} {G : LG} {all : List Wl.By} {sf : Nat} (h : Good D G all sf) (hf : D.fused = false) : (wlSync D G).1 = 0 ∧ (wlSync D G).2.2 = G ∧ Good (wlSync D G).2.1 G all all.length := by
  rcases h.sync with ⟨a, b, c⟩ | ⟨_, _, e⟩
  · exact ⟨a, b, c⟩
  · rw [hf] at e; cases e

set_option maxHeartbeats 8000000 in
theorem falls_walk (w : World) (da : Option Addr) (dc : Nat) (X : List Dd) (hX : DeedsAt w da X) (hXn : X.length * 56 ≤ 140737488355328) (hXi : ∀ x ∈ X, x.n ≤ 9223372036854775807 ∧ ∃ K, x.pl = List.length K ∧ KeepAt w x.pa K) :
    Calls Try.prog 7 #[.slice da X.length dc] w fun e w' => e = .returned (.bool true) ∧ Below w.heap.size w w' := by
  have K0 := hid (logged_any w)
  have HX := hid hX
  have HXi := hid hXi
  obtain ⟨i0, hi, hz0, hz1, hz2⟩ := info_parts tx_info
  clear hX hXi
  go_enter Try.func7, Try.ntmps7
  go_wp2_with fail
  refine K0.out.mono ?_
  rintro r w1 ⟨p, lb, v, D, rfl, hH, hG, hF, hL⟩
  have KA := append_any w1 lb p D ⟨2, 20, 1, 0, 1, true⟩ hH.wal aText (by rw [hL]; simp)
  obtain ⟨c0, g0⟩ := first_ok D hG hF
  have ff := (hG.append aText).1
  have fr := (hG.append aText).2.1
  have fn := (hG.append aText).2.2.1
  obtain ⟨c, D1, G1, hx⟩ : ∃ c D1 G1, wlAppend D ⟨2, 20, 1, 0, 1, true⟩ aText = (c, D1, G1) := ⟨_, _, _, rfl⟩
  rw [hx] at KA c0 g0 ff fr fn
  simp only at c0 g0 ff fr fn
  subst c0
  have KA' := hid KA
  have HH := hid hH
  have HG0 := hid g0
  have HFF := hid (ff.trans hF)
  have HFR := hid fr
  have HFN := hid fn
  clear hH hG hF hL KA ff fr fn hx g0 K0
  generalize p.b = pb at *
  go_wp2_with fail
  refine KA'.out.mono ?_
  rintro r w2 ⟨p2, hp2, rfl, h2, g2⟩
  have H2 := hid (HH.out.step hp2 h2 g2)
  obtain ⟨s1, s2, s3⟩ := first_sync HG0.out HFF.out
  have KS := sync_any w2 lb p2 D1 G1 h2
  obtain ⟨c, D2, G2, hx⟩ : ∃ c D2 G2, wlSync D1 G1 = (c, D2, G2) := ⟨_, _, _, rfl⟩
  rw [hx] at KS s1 s2 s3
  simp only at s1 s2 s3
  subst s1
  subst s2
  have KS' := hid KS
  have HS3 := hid s3
  clear hp2 h2 g2 KA' HH HG0 HFF KS hx s3
  go_wp2_with fail
  refine KS'.out.mono ?_
  rintro r w3 ⟨p3, hp3, rfl, h3, g3⟩
  have B3 : Hid (Held w (w3.alloc (.cells #[.string ⟨#[97]⟩] 9)) pb lb (.slice (some ⟨w3.heap.size, 0, none⟩) 1 1) [[97]] p3 D2 G2) := (H2.out.step hp3 h3 g3).one (Below.refl _ w3) [97]
  have S3 : Hid (StF D2 G2 [[97]] 1 false ⟨#[]⟩) := StF.of_good HS3.out HFR.out HFN.out false ⟨#[]⟩
  clear hp3 h3 g3 KS' H2 HS3 HFR HFN
  go_wp2_with fail
  go_loopw [4, 6, 7, 8, 9, 36] (fun lv v sv rv tv iv wr => ∃ (i lb : Nat) (all : List Wl.By) (sf : Nat) (rs : ByteArray) (tr : Bool) (p : DP) (D : SD) (G : LG), i ≤ X.length ∧ iv = .int .i64 (i : Int) ∧ lv = .pointer (some ⟨lb, 0, none⟩) ∧ sv = .int .i64 (sf : Int) ∧ rv = .string rs ∧ tv = .bool tr ∧ Hid (Held w wr pb lb v all p D G) ∧ Hid (StF D G all sf tr rs)) (fun _ _ _ _ _ iv _ => X.length - (intOf iv).toNat)
  case atStart => exact ⟨0, lb, [[97]], 1, ⟨#[]⟩, false, p3, D2, G2, Nat.zero_le _, rfl, rfl, rfl, rfl, rfl, B3, S3⟩
  case round =>
    clear B3 S3
    obtain ⟨i, lb, all, sf, rs, tr, p, D, G, hi', rfl, rfl, rfl, rfl, rfl, hh, hst⟩ := hrel
    by_cases hlt : i < X.length
    · obtain ⟨⟨xk, xn, xt, pa, pl, pc⟩, hx⟩ : ∃ x, X[i]? = some x := ⟨_, List.getElem?_eq_getElem hlt⟩
      obtain ⟨db, off, hda, hdc⟩ := HX.out (by intro e; rw [e] at hlt; simp at hlt)
      subst hda
      obtain ⟨d0, d1, d2, d3⟩ := hdc i _ hx
      have hdl := World.block_lt_of_cell? w _ d0
      have hol := hh.out.old
      have d0 : wr.cell? ⟨db, off + i * 4, none⟩ = some (.int .i64 xk) := (hol.cell (p := ⟨db, off + i * 4, none⟩) hdl).trans d0
      have d1 : wr.cell? ⟨db, off + i * 4 + 1, none⟩ = some (.int .i64 xn) := (hol.cell (p := ⟨db, off + i * 4 + 1, none⟩) hdl).trans d1
      have d2 : wr.cell? ⟨db, off + i * 4 + 2, none⟩ = some (.string xt) := (hol.cell (p := ⟨db, off + i * 4 + 2, none⟩) hdl).trans d2
      have d3 : wr.cell? ⟨db, off + i * 4 + 3, none⟩ = some (.slice pa pl pc) := (hol.cell (p := ⟨db, off + i * 4 + 3, none⟩) hdl).trans d3
      obtain ⟨hxn, K, hpl, hK⟩ := HXi.out _ (List.mem_of_getElem? hx)
      have hpl : pl = K.length := hpl
      have hxn : xn ≤ 9223372036854775807 := hxn
      have hK : KeepAt w pa K := hK
      subst hpl
      have i0' : (0 : Int) ≤ (i : Int) := by omega
      have i1 : (i : Int) < (X.length : Int) := by omega
      have HB0 : Hid (Held w (wr.alloc (.cells #[.int .i64 xk, .int .i64 xn, .string xt, .slice pa K.length pc] 44)) pb lb u6 all p D G) := hh.out.below ((Below.refl _ wr).alloc (Nat.le_refl _) _)
      have XH : Hid ((wr.alloc (.cells #[.int .i64 xk, .int .i64 xn, .string xt, .slice pa K.length pc] 44)).heap[wr.heap.size]? = some (.cells #[.int .i64 xk, .int .i64 xn, .string xt, .slice pa K.length pc] 44 (0, 0))) := heap_alloc_new wr _
      have xo : Hid (¬ wown p lb wr.heap.size) := fun e => by have := hh.out.wal.own_lt _ e; omega
      have HK := hid hK
      have hXl : (X.length : Int) ≤ 2513169434917 := by omega
      clear hdc hx hol hK hh
      by_cases k3 : xk = 3
      · subst k3
        have KF := fuse_any _ p D HB0.out.wal.disk xn hxn
        rw [HB0.out.hp] at KF
        have KF' := hid KF
        have HS := hid (hst.out.fuse xn hxn)
        clear KF hst HK
        go_wp2_with fail
        refine KF'.out.mono ?_
        rintro r w4 ⟨rfl, h4, g4⟩
        have H4 := hid (HB0.out.disk rfl h4 g4)
        clear h4 g4 KF' XH xo HB0
        go_wp2_with fail
        go_roundw
        case rel => exact ⟨i + 1, lb, _, sf, rs, tr, p, _, G, by omega, by go_num, rfl, rfl, rfl, rfl, H4, HS⟩
        case measure => simp [intOf]; omega
      · have e3 : (xk == 3) = false := by simpa using k3
        by_cases k4 : xk = 4
        · subst k4
          have hKn : K ≠ [] → ∀ kb ko, pa = some ⟨kb, ko, none⟩ → ¬ p.own kb := fun hne kb ko e ho => by
            have a1 := HK.out.lt hne kb ko e
            rcases HB0.out.goes.grow kb (.inl ho) with e | e
            · exact e
            · omega
          have KC := crash_any _ p D HB0.out.wal.disk pa pc K (HK.out.below HB0.out.old) hKn (by have := hst.out.len; omega)
          rw [HB0.out.hp] at KC
          have KC' := hid KC
          obtain ⟨E, R, m, hE, hT, hA, hQ⟩ := hst.out.crash K
          have HQ := hid hQ
          have KO := hid fun W q (hW : DiskAt W q (D.crash K)) => open_told W q (D.crash K) hW 2 20 E R m hT hE rfl hA (by show 0 ≤ _; omega)
          have hal : (all.map ba).length ≤ 256 := by rw [List.length_map]; exact hst.out.alen
          clear KC hKn hT hA hQ hst HK
          go_wp2_with fail
          refine KC'.out.mono ?_
          rintro r w4 ⟨p4, hp4, rfl, h4, g4⟩
          have H4 := hid (HB0.out.disk (hp4.trans HB0.out.hp.symm) h4 g4)
          have KO4 := KO.out w4 p4 h4
          rw [H4.out.hp] at KO4
          have KO5 := hid KO4
          clear hp4 h4 g4 KC' KO KO4 XH xo HB0
          go_wp2_with fail
          refine KO5.out.mono ?_
          rintro r w5 hpost
          rcases hpost with ⟨hEe, rfl, p5, hp5, g5⟩ | ⟨hEl, p5, lb5, v5, D5, G5, hp5, rfl, hw5, hg5, _, _, hG5, hrow5, hfar5, hgo5, _⟩
          · have HO := hid (H4.out.goesOld g5)
            clear g5 H4 KO5
            simp only [nilV]
            go_wp2_with fail
            go_ret
            exact ⟨rfl, HO.out⟩
          · have H5 := hid (H4.out.anew hp5 hw5 hrow5 hfar5 hgo5)
            have row0 := H4.out.rowGoes hgo5
            have S5 : Hid (StF D5 G5 (R.map (·.text)) R.length false rs) := StF.of_good hg5 (by rw [hG5]; rfl) (by rw [hG5]; rfl) false rs
            have hRl : R.length ≤ 256 := by have := S5.out.alen; rw [List.length_map] at this; exact this
            obtain ⟨a5, c5, hv5, s5⟩ := SlAt.own' H5.out.row
            have HFr : Hid (Told2 all sf tr rs (R.map (·.text)) → (sf ≤ ((R.map (·.text)).map ba).length ∧ fr ((R.map (·.text)).map ba) (all.map ba) = true) ∨ (tr = true ∧ (R.map (·.text)).map ba = [rs])) := fun hq => by
              rcases hq with ⟨q1, q2⟩ | ⟨q1, q2⟩
              · exact .inl ⟨by rw [List.length_map]; exact q1, fr_of q2⟩
              · exact .inr ⟨q1, by rw [q2]; simp [ba_bl]⟩
            have HF := hid (HFr.out HQ.out)
            have hLRl : ((R.map (·.text)).map ba).length = R.length := by rw [List.length_map, List.length_map]
            have KF := front_any w5 a5 c5 ((R.map (·.text)).map ba) (all.map ba) s5 (by omega) hal u6 row0
            have KF' := hid KF
            have SS := hid s5
            subst hv5
            have HLL := hid hLRl
            have hLR256 : ((R.map (·.text)).map ba).length ≤ 256 := by omega
            clear hp5 hw5 hg5 hG5 hrow5 hfar5 hgo5 KO5 H4 row0 s5 KF HFr HQ hLRl
            generalize hLR : (R.map (·.text)).map ba = LR at *
            clear hLR
            generalize all.map ba = LA at *
            by_cases hle : sf ≤ LR.length
            · have hle1 : decide ((sf : Int) ≤ (LR.length : Int)) = true := by simp; omega
              have hle2 : (sf : Int) ≤ (LR.length : Int) := by omega
              by_cases hfr : fr LR LA = true
              · rw [hfr] at KF'
                clear HF SS
                go_wp2_with fail
                refine KF'.out.mono ?_
                rintro r w6 ⟨rfl, hb6⟩
                have H6 := hid (H5.out.below hb6)
                clear hb6 KF' H5
                go_wp2_with fail
                go_roundw
                case rel => exact ⟨i + 1, lb5, R.map (·.text), R.length, rs, false, p5, D5, G5, by omega, by go_num, rfl, by rw [HLL.out], rfl, rfl, H6, S5⟩
                case measure => simp [intOf]; omega
              · have hfr' : fr LR LA = false := by simpa using hfr
                rcases HF.out with ⟨_, e⟩ | ⟨rfl, hLR⟩
                · exact absurd e hfr
                · rw [hfr'] at KF'
                  have HLR := hid hLR
                  clear HF hLR
                  go_wp2_with fail
                  refine KF'.out.mono ?_
                  rintro r w6 ⟨rfl, hb6⟩
                  have hb7 : Below w5.heap.size w5 (w6.alloc (.cells #[.string rs] 9)) := hb6.alloc hb6.size _
                  have KE := equal_any (w6.alloc (.cells #[.string rs] 9)) a5 (some ⟨w6.heap.size, 0, none⟩) c5 1 LR [rs] (SS.out.below hb7) (fun j t hj => by
                    match j, hj with
                    | 0, hj =>
                      simp at hj
                      subst hj
                      exact ⟨_, _, rfl, by rw [cell_of_row _ _ _ _ _ _ (heap_alloc_new w6 _)]; rfl⟩) (by omega) (by simp)
                  rw [decide_eq_true HLR.out, show ([rs] : List ByteArray).length = 1 from rfl] at KE
                  have KE' := hid KE
                  have H7 := hid (H5.out.below hb7)
                  clear hb6 KF' H5 KE hb7 SS
                  go_wp2_with fail
                  refine KE'.out.mono ?_
                  rintro r w8 ⟨rfl, hb8⟩
                  have H8 := hid (H7.out.below hb8)
                  clear hb8 KE' H7
                  go_wp2_with fail
                  go_roundw
                  case rel => exact ⟨i + 1, lb5, R.map (·.text), R.length, rs, false, p5, D5, G5, by omega, by go_num, rfl, by rw [HLL.out], rfl, rfl, H8, S5⟩
                  case measure => simp [intOf]; omega
            · have hle1 : decide ((sf : Int) ≤ (LR.length : Int)) = false := by simp; omega
              have hle2 : ¬ (sf : Int) ≤ (LR.length : Int) := by omega
              rcases HF.out with ⟨e, _⟩ | ⟨rfl, hLR⟩
              · exact absurd e hle
              · have HLR := hid hLR
                have hb7 : Below w5.heap.size w5 (w5.alloc (.cells #[.string rs] 9)) := (Below.refl _ w5).alloc (Nat.le_refl _) _
                have KE := equal_any (w5.alloc (.cells #[.string rs] 9)) a5 (some ⟨w5.heap.size, 0, none⟩) c5 1 LR [rs] (SS.out.below hb7) (fun j t hj => by
                  match j, hj with
                  | 0, hj =>
                    simp at hj
                    subst hj
                    exact ⟨_, _, rfl, by rw [cell_of_row _ _ _ _ _ _ (heap_alloc_new w5 _)]; rfl⟩) (by omega) (by simp)
                rw [decide_eq_true HLR.out, show ([rs] : List ByteArray).length = 1 from rfl] at KE
                have KE' := hid KE
                have H7 := hid (H5.out.below hb7)
                clear HF hLR KF' H5 KE hb7 SS
                go_wp2_with fail
                refine KE'.out.mono ?_
                rintro r w8 ⟨rfl, hb8⟩
                have H8 := hid (H7.out.below hb8)
                clear hb8 KE' H7
                go_wp2_with fail
                go_roundw
                case rel => exact ⟨i + 1, lb5, R.map (·.text), R.length, rs, false, p5, D5, G5, by omega, by go_num, rfl, by rw [HLL.out], rfl, rfl, H8, S5⟩
                case measure => simp [intOf]; omega
        · have e4 : (xk == 4) = false := by simpa using k4
          clear HK hxn
          by_cases k8 : xk = 8
          · subst k8
            have KS := sync_any _ lb p D G HB0.out.wal
            have hnx := hst.out.sync
            obtain ⟨c, D', G', hxx⟩ : ∃ c D' G', wlSync D G = (c, D', G') := ⟨_, _, _, rfl⟩
            rw [hxx] at KS hnx
            simp only at hnx
            have KS' := hid KS
            have HN := hid hnx
            have hrl : (all.map ba).length = all.length := List.length_map ..
            clear KS hnx hxx hst
            obtain ⟨va, vc, hv, _⟩ := SlAt.own' HB0.out.row
            rw [hrl] at hv
            by_cases hc : c = 0
            · subst hc
              have HS := hid (HN.out.1 rfl)
              clear HN
              subst hv
              go_wp2_with fail
              refine KS'.out.mono ?_
              rintro r w4 ⟨p4, hp4, rfl, h4, g4⟩
              have H4 := hid (HB0.out.step hp4 h4 g4)
              clear hp4 h4 g4 KS' XH xo HB0
              go_wp2_with fail
              go_roundw
              case rel => exact ⟨i + 1, lb, _, all.length, rs, tr, p4, D', G', by omega, by go_num, rfl, rfl, rfl, rfl, H4, HS⟩
              case measure => simp [intOf]; omega
            · have hc' : (c == 0) = false := by simpa using hc
              have HS := hid (HN.out.2 hc)
              clear HN hv
              go_wp2_with fail
              refine KS'.out.mono ?_
              rintro r w4 ⟨p4, hp4, rfl, h4, g4⟩
              have H4 := hid (HB0.out.step hp4 h4 g4)
              clear hp4 h4 g4 KS' XH xo HB0
              go_wp2_with fail
              go_roundw
              case rel => exact ⟨i + 1, lb, _, sf, rs, tr, p4, D', G', by omega, by go_num, rfl, rfl, rfl, rfl, H4, HS⟩
              case measure => simp [intOf]; omega
          · have e8 : (xk == 8) = false := by simpa using k8
            by_cases k9 : xk = 9
            · subst k9
              have KR := reset_any _ lb p D G HB0.out.wal xt (by have := hst.out.len; omega)
              have hnx := hst.out.reset xt
              obtain ⟨c, D', G', hxx⟩ : ∃ c D' G', wlReset D G xt = (c, D', G') := ⟨_, _, _, rfl⟩
              rw [hxx] at KR hnx
              simp only at hnx
              have KR' := hid KR
              obtain ⟨n1, n2, n3, n4⟩ := hnx
              have N1 := hid n1
              have N2 := hid n2
              have N3 := hid n3
              clear KR hxx hst n1 n2 n3
              rcases n4 with rfl | rfl | rfl | rfl | rfl
              · have HS := hid (N1.out rfl)
                clear N1 N2 N3
                go_wp2_with fail
                refine KR'.out.mono ?_
                rintro r w4 ⟨p4, hp4, rfl, h4, g4⟩
                have H4 := HB0.out.step hp4 h4 g4
                have x2 := box_at XH.out g4 xo.out
                have H5 := H4.one (Below.refl _ w4) (bl xt)
                rw [ba_bl] at H5
                have HH5 := hid H5
                clear hp4 h4 g4 KR' XH xo HB0 H4 H5
                go_wp2_with fail
                go_roundw
                case rel => exact ⟨i + 1, lb, _, 1, rs, tr, p4, D', G', by omega, by go_num, rfl, rfl, rfl, rfl, HH5, HS⟩
                case measure => simp [intOf]; omega
              · have HS := hid (N2.out (.inl rfl))
                clear N1 N2 N3
                go_wp2_with fail
                refine KR'.out.mono ?_
                rintro r w4 ⟨p4, hp4, rfl, h4, g4⟩
                have H4 := hid (HB0.out.step hp4 h4 g4)
                clear hp4 h4 g4 KR' XH xo HB0
                go_wp2_with fail
                go_roundw
                case rel => exact ⟨i + 1, lb, _, sf, rs, tr, p4, D', G', by omega, by go_num, rfl, rfl, rfl, rfl, H4, HS⟩
                case measure => simp [intOf]; omega
              · have HS := hid (N2.out (.inr (.inl rfl)))
                clear N1 N2 N3
                go_wp2_with fail
                refine KR'.out.mono ?_
                rintro r w4 ⟨p4, hp4, rfl, h4, g4⟩
                have H4 := hid (HB0.out.step hp4 h4 g4)
                clear hp4 h4 g4 KR' XH xo HB0
                go_wp2_with fail
                go_roundw
                case rel => exact ⟨i + 1, lb, _, sf, rs, tr, p4, D', G', by omega, by go_num, rfl, rfl, rfl, rfl, H4, HS⟩
                case measure => simp [intOf]; omega
              · have HS := hid (N2.out (.inr (.inr rfl)))
                clear N1 N2 N3
                go_wp2_with fail
                refine KR'.out.mono ?_
                rintro r w4 ⟨p4, hp4, rfl, h4, g4⟩
                have H4 := hid (HB0.out.step hp4 h4 g4)
                clear hp4 h4 g4 KR' XH xo HB0
                go_wp2_with fail
                go_roundw
                case rel => exact ⟨i + 1, lb, _, sf, rs, tr, p4, D', G', by omega, by go_num, rfl, rfl, rfl, rfl, H4, HS⟩
                case measure => simp [intOf]; omega
              · have HS := hid (N3.out rfl)
                clear N1 N2 N3
                go_wp2_with fail
                refine KR'.out.mono ?_
                rintro r w4 ⟨p4, hp4, rfl, h4, g4⟩
                have H4 := hid (HB0.out.step hp4 h4 g4)
                have x2 := box_at XH.out g4 xo.out
                clear hp4 h4 g4 KR' XH xo HB0
                go_wp2_with fail
                go_roundw
                case rel => exact ⟨i + 1, lb, _, sf, xt, true, p4, D', G', by omega, by go_num, rfl, rfl, rfl, rfl, H4, HS⟩
                case measure => simp [intOf]; omega
            · have e9 : (xk == 9) = false := by simpa using k9
              have KA := append_any _ lb p D G HB0.out.wal xt (by have := hst.out.len; omega)
              have hnx := hst.out.append xt
              obtain ⟨c, D', G', hxx⟩ : ∃ c D' G', wlAppend D G xt = (c, D', G') := ⟨_, _, _, rfl⟩
              rw [hxx] at KA hnx
              simp only at hnx
              have KA' := hid KA
              have HN := hid hnx
              have hal : (all.map ba).length ≤ 256 := by rw [List.length_map]; exact hst.out.alen
              have hrl : (all.map ba).length = all.length := List.length_map ..
              clear KA hnx hxx hst
              by_cases hc : c = 0
              · subst hc
                have HS := hid (HN.out.1 rfl)
                clear HN
                go_wp2_with fail
                refine KA'.out.mono ?_
                rintro r w4 ⟨p4, hp4, rfl, h4, g4⟩
                have H4 := hid (HB0.out.step hp4 h4 g4)
                have x2 := box_at XH.out g4 xo.out
                clear hp4 h4 g4 KA' XH xo HB0
                go_wp2_with (at_builtin; refine wpList_append_own_at _ rfl _ _ 40 rfl w.heap.size 9 i0 (.string ⟨#[]⟩) 1 16 Try.underlying40 hi hz0 hz1 hz2 rfl (by decide) _ _ _ rfl (H4.out.row.alloc _) ⟨w4.heap.size, 0, none⟩ 1 1 [.string xt] rfl rfl ?c1 ?c2 ?c3 ?c4 ?c5 ?_)
                case c1 => exact news_str w4 xt
                case c2 => exact cell_str _
                case c3 => unfold maxLen; omega
                case c4 => omega
                case c5 => have := H4.out.goes.size; simp; omega
                · intro v' w5 hown hgrow _ hat
                  have H5 := H4.out.push (t := bl xt) (Below.refl _ w4) (by rw [ba_bl, hrl, List.map_map]; exact hown) hgrow (by simpa using hat)
                  have HH5 := hid H5
                  clear hown hgrow hat H5 H4
                  go_wp2_with fail
                  go_roundw
                  case rel => exact ⟨i + 1, lb, _, sf, rs, tr, p4, D', G', by omega, by go_num, rfl, rfl, rfl, rfl, HH5, HS⟩
                  case measure => simp [intOf]; omega
              · have hc' : (c == 0) = false := by simpa using hc
                have HS := hid (HN.out.2 hc)
                clear HN
                go_wp2_with fail
                refine KA'.out.mono ?_
                rintro r w4 ⟨p4, hp4, rfl, h4, g4⟩
                have H4 := hid (HB0.out.step hp4 h4 g4)
                clear hp4 h4 g4 KA' XH xo HB0
                go_wp2_with fail
                go_roundw
                case rel => exact ⟨i + 1, lb, _, sf, rs, tr, p4, D', G', by omega, by go_num, rfl, rfl, rfl, rfl, H4, HS⟩
                case measure => simp [intOf]; omega
    · obtain rfl : i = X.length := by omega
      have j1 : decide ((X.length : Int) < (X.length : Int)) = false := by simp
      have HO := hid hh.out.old
      go_wp2_with fail
      go_ret
      exact ⟨rfl, HO.out⟩

end Go.Proofs.Ythfpinjegfgeiaf
