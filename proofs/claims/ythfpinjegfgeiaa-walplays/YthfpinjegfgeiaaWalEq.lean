/- slices.Equal at texts, walked; Open where it is known what lies there. -/
import Derived.Test.YthfpinjegfgeiaaWalRst
namespace Go.Proofs.Ythfpinjegfgeiaa
open Go Go.RowKit
set_option maxRecDepth 100000

/-! ### slices.Equal -/
/-- A slice of texts: its cells lie where it says. -/
def SlAt (w : World) (a : Option Addr) (l : List ByteArray) : Prop := ∀ (j : Nat) (t : ByteArray), l[j]? = some t → ∃ b o, a = some ⟨b, o, none⟩ ∧ w.cell? ⟨b, o + j, none⟩ = some (.string t)
theorem SlAt.below {w w' : World} {a : Option Addr} {l : List ByteArray} (h : SlAt w a l) (hb : Below w.heap.size w w') : SlAt w' a l := fun j t hj => by
  obtain ⟨b, o, e, hc⟩ := h j t hj
  exact ⟨b, o, e, (hb.cell (p := ⟨b, o + j, none⟩) (World.block_lt_of_cell? w _ hc)).trans hc⟩
theorem SlAt.take {w : World} {a : Option Addr} {l : List ByteArray} (h : SlAt w a l) (k : Nat) : SlAt w a (l.take k) := fun j t hj => by
  rw [List.getElem?_take] at hj
  split at hj
  · exact h j t hj
  · cases hj
theorem SlAt.own {w : World} {base : Nat} {v : Value} {l : List ByteArray} (h : w.ownsRow base 9 1 v l.length (l.map Value.string)) : (v = .slice none 0 0 ∧ l = []) ∨ ∃ g c, v = .slice (some ⟨g, 0, none⟩) l.length c ∧ l.length ≤ c ∧ c ≤ maxLen ∧ SlAt w (some ⟨g, 0, none⟩) l := by
  rcases h.2 with ⟨rfl, h0⟩ | ⟨g, cap, cur, hv, hb, hg, h1, h2, h3, h4⟩
  · exact .inl ⟨rfl, List.eq_nil_of_length_eq_zero h0⟩
  · refine .inr ⟨g, cap, hv, h1, h2, fun j t hj => ⟨g, 0, rfl, ?_⟩⟩
    rw [Nat.zero_add, cell_of_row w g _ cur 9 _ hg]
    have e : (l.map Value.string)[j]? = some (.string t) := by rw [List.getElem?_map, hj]; rfl
    rw [← h4, Nat.mul_one, List.getElem?_take] at e
    split at e
    · simpa using e
    · cases e
theorem SlAt.own' {w : World} {base : Nat} {v : Value} {l : List ByteArray} (h : w.ownsRow base 9 1 v l.length (l.map Value.string)) : ∃ a c, v = .slice a l.length c ∧ SlAt w a l := by
  rcases SlAt.own h with ⟨rfl, rfl⟩ | ⟨g, c, hv, _, _, hs⟩
  · exact ⟨none, 0, rfl, fun j t hj => by simp at hj⟩
  · exact ⟨_, _, hv, hs⟩

theorem take_next {l1 l2 : List ByteArray} {k : Nat} {t : ByteArray} (h : l1.take k = l2.take k) (h1 : l1[k]? = some t) (h2 : l2[k]? = some t) : l1.take (k + 1) = l2.take (k + 1) := by
  have e1 := (List.getElem?_eq_some_iff.1 h1)
  have e2 := (List.getElem?_eq_some_iff.1 h2)
  obtain ⟨a1, b1⟩ := e1
  obtain ⟨a2, b2⟩ := e2
  rw [List.take_succ_eq_append_getElem a1, List.take_succ_eq_append_getElem a2, h, b1, b2]

set_option maxHeartbeats 2000000 in
theorem equal_any (w : World) (a1 a2 : Option Addr) (c1 c2 : Nat) (l1 l2 : List ByteArray) (h1 : SlAt w a1 l1) (h2 : SlAt w a2 l2) (hl1 : l1.length ≤ 9223372036854775807) (hl2 : l2.length ≤ 9223372036854775807) :
    Calls Try.prog 35 #[.slice a1 l1.length c1, .slice a2 l2.length c2] w fun e w' => e = .returned (.bool (decide (l1 = l2))) ∧ Below w.heap.size w w' := by
  by_cases hl : l1.length = l2.length
  · have hb : ((l1.length : Int) != (l2.length : Int)) = false := by simp; omega
    have hb2 : (l1.length != l2.length) = false := by simp; omega
    have H1 := hid h1
    have H2 := hid h2
    obtain ⟨Y, hY⟩ : ∃ Y, Y = decide (l1 = l2) := ⟨_, rfl⟩
    rw [← hY]
    have HY := hid hY
    have HL := hid hl
    clear h1 h2 hY hl
    go_enter Try.func35, Try.ntmps35
    go_wp2_with fail
    go_loopw [13] (fun i wr => ∃ k : Nat, k ≤ l1.length ∧ i = .int .i64 (k : Int) ∧ Hid (l1.take k = l2.take k) ∧ Hid (Below w.heap.size w wr)) (fun i _ => l1.length - (intOf i).toNat)
    case atStart => exact ⟨0, Nat.zero_le _, rfl, by show _ = _; simp, Below.refl _ _⟩
    case round =>
      obtain ⟨k, hk, rfl, ht, hbel⟩ := hrel
      by_cases hlt : k < l1.length
      · have hlt2 : k < l2.length := by have := HL.out; omega
        obtain ⟨t1, ht1⟩ : ∃ t, l1[k]? = some t := ⟨_, List.getElem?_eq_getElem hlt⟩
        obtain ⟨t2, ht2⟩ : ∃ t, l2[k]? = some t := ⟨_, List.getElem?_eq_getElem hlt2⟩
        obtain ⟨b1, o1, rfl, d1⟩ := (H1.out.below hbel.out) k t1 ht1
        obtain ⟨b2, o2, rfl, d2⟩ := (H2.out.below hbel.out) k t2 ht2
        have k0 : (0 : Int) ≤ (k : Int) := by omega
        have k1 : (k : Int) < (l1.length : Int) := by omega
        have k2 : (k : Int) < (l2.length : Int) := by omega
        by_cases e : t1 = t2
        · subst e
          have NX := hid (take_next ht.out ht1 ht2)
          clear ht1 ht2 ht
          go_wp2_with fail
          go_quiet (fail)
          go_wp2_with fail
          go_roundw
          case rel => exact ⟨k + 1, by omega, by go_num, NX, hid (below_drewN hbel.out _)⟩
          case measure => simp [intOf]; omega
        · have e1 := str_other e
          have e2 : (t1.toList != t2.toList) = true := by unfold bne; rw [e1]; rfl
          have HF : Hid (Y = false) := by
            show _ = _
            rw [HY.out, decide_eq_false_iff_not]
            rintro rfl
            rw [ht1] at ht2
            exact e (Option.some.inj ht2)
          clear ht1 ht2 ht
          go_wp2_with fail
          go_quiet (fail)
          go_wp2_with fail
          go_ret
          exact ⟨by rw [HF.out]; rfl, below_drewN hbel.out _⟩
      · obtain rfl : k = l1.length := by omega
        have HT : Hid (Y = true) := by
          show _ = _
          rw [HY.out, decide_eq_true_iff]
          have := ht.out
          rw [List.take_length, HL.out, List.take_length] at this
          exact this
        have j1 : decide ((l1.length : Int) < (l1.length : Int)) = false := by simp
        go_wp2_with fail
        go_ret
        exact ⟨by rw [HT.out]; rfl, hbel.out⟩
  · have hb : ((l1.length : Int) != (l2.length : Int)) = true := by simp; omega
    have hb2 : (l1.length != l2.length) = true := by simp; omega
    have hd : decide (l1 = l2) = false := by
      rw [decide_eq_false_iff_not]
      rintro rfl
      exact hl rfl
    rw [hd]
    clear h1 h2 hd hl
    go_enter Try.func35, Try.ntmps35
    go_wp2_with fail
    go_ret
    exact ⟨rfl, Below.refl _ _⟩

/-! ### Open where it is known what lies there -/
theorem Told.open {D : SD} {a n E : Nat} {R : List Wl.Rec} {m : List Wl.By} (h : Told D a n E R m) (hE : E ≤ 1000000) (hup : D.fused = false) :
    (E = 1000000 ∧ wlRaise D (LG.made a n E R) = (8, D, LG.made a n E R)) ∨
      ((wlRaise D (LG.made a n E R)).1 = 0 ∧ (wlRaise D (LG.made a n E R)).2.2 = { LG.made a n E R with epoch := E + 1 } ∧ Good (wlRaise D (LG.made a n E R)).2.1 (wlRaise D (LG.made a n E R)).2.2 (R.map (·.text)) R.length ∧ (wlRaise D (LG.made a n E R)).2.1.fused = false ∧ (wlRaise D (LG.made a n E R)).2.1.loose = []) := by
  by_cases hEe : E = 1000000
  · exact .inl ⟨hEe, raise_full hEe⟩
  · have hfit := h.fit
    have hn2 := h.n2
    have hd : D.down = false := by unfold SD.down; rw [hup]; rfl
    have hd1 : (D.write (a : Int) (anchorB ((E + 1 : Nat) : Int))).2.down = false := by unfold SD.down; rw [write_fused, hup]; rfl
    have eq := raise_up (D := D) (G := LG.made a n E R) (by show E < 1000000; omega) h.ok (by show a < D.n; omega) hd hd1
    obtain ⟨_, t2, _⟩ := h.raise (by omega) hd hd1
    have hd1' : (D.write ((LG.made a n E R).frm : Int) (anc1 (LG.made a n E R))).2.down = false := hd1
    rw [eq]
    refine .inr ⟨rfl, rfl, ⟨R, m, [], ⟨t2, by simp, by show R.length = R.length + 0; rfl, by show 1 + Wl.sizes R = 1 + Wl.sizes R + 0; rfl, rfl⟩, by simp, Nat.le_refl _⟩, ?_, ?_⟩
    · show (D.write ((LG.made a n E R).frm : Int) (anc1 (LG.made a n E R))).2.flush.2.fused = false
      rw [flush_fused, write_fused]; exact hup
    · show (D.write ((LG.made a n E R).frm : Int) (anc1 (LG.made a n E R))).2.flush.2.loose = []
      rw [flush_up hd1']

/-- What Open answers where the records R lie: that no epoch is left, or a log, and their texts. -/
def OpenTold (w : World) (p : DP) (a n E : Nat) (R : List Wl.Rec) (r : Ending) (w' : World) : Prop :=
  (E = 1000000 ∧ r = .returned (nilV 8) ∧ ∃ p' : DP, p'.b = p.b ∧ Goes p.own w w' p'.own) ∨
  (E < 1000000 ∧ ∃ (p' : DP) (lb : Nat) (v : Value) (D' : SD) (G' : LG), p'.b = p.b ∧ r = .returned (.tuple #[.pointer (some ⟨lb, 0, none⟩), v, .int .i64 0]) ∧ WalAt w' lb p' D' G' ∧ Good D' G' (R.map (·.text)) R.length ∧ D'.fused = false ∧ D'.loose = [] ∧ G' = { LG.made a n E R with epoch := E + 1 } ∧
    w'.ownsRow w.heap.size 9 1 v R.length ((txts R).map Value.string) ∧ (∀ k, v.ownBlock = some k → ¬ wown p' lb k) ∧ Goes p.own w w' (wown p' lb) ∧ w.heap.size ≤ lb)

theorem open_told (w : World) (p : DP) (D : SD) (h : DiskAt w p D) (a n E : Nat) (R : List Wl.Rec) (m : List Wl.By) (hT : Told D a n E R m) (hE : E ≤ 1000000) (hup : D.fused = false) (hA : getA (D.seen.getD a ⟨#[]⟩) = ((E : Int), true)) (hf : few D) :
    Calls Try.prog 33 #[.pointer (some ⟨p.b, 0, none⟩), .int .i64 (a : Int), .int .i64 (n : Int)] w (OpenTold w p a n E R) := by
  have hd : D.down = false := by unfold SD.down; rw [hup]; rfl
  refine (open_ok w p D h a n hT.n2 hT.fit hd E hE hA hf).mono ?_
  rintro r w' ⟨R', m', hc, he, hp⟩
  rw [ar_secs] at hc
  obtain ⟨rfl, rfl⟩ := hc.det (by rw [Nat.zero_add]; exact he) hT.chain (by rw [Nat.zero_add]; exact fun r hr => .inl (hT.stop r hr))
  rcases hT.open hE hup with ⟨e1, e2⟩ | ⟨e1, e2, e3, e4, e5⟩
  · have h0 : (wlRaise D (LG.made a n E R')).1 ≠ 0 := by rw [e2]; simp
    obtain ⟨p', q1, q2, q3, q4⟩ := hp.1 h0
    rw [e2] at q2
    exact .inl ⟨e1, q2, p', q1, q4⟩
  · obtain ⟨p', lb, v, q1, q2, q3, q4, q5, q6, q7⟩ := hp.2 e1
    have hlt : E < 1000000 := by
      rcases Nat.lt_or_ge E 1000000 with e | e
      · exact e
      · exfalso
        have : E = 1000000 := by omega
        rw [raise_full (show (LG.made a n E R').epoch = 1000000 from this)] at e1
        simp at e1
    exact .inr ⟨hlt, p', lb, v, _, _, q1, q2, q3, e3, e4, e5, e2, q4, q5, q6, q7⟩

end Go.Proofs.Ythfpinjegfgeiaa
