/- quirref.Pool, walked: it answers what the plain words say. Conditions: the room is from 1 to 50, at most 2000 refs, each a number that an int holds; the refs' slice has no less capacity than length. -/
import Derived.Test.YtlcpioeobnjcdaaPoolRefStep
namespace Go.Proofs.Ytlcpioeobnjcdaa.PPool
open Go Go.RowKit Go.Maps
set_option maxRecDepth 100000

theorem zero3 (w : World) : (zeroValue 3).run Try.prog w = .ok (.int .i64 0) w := by kernel_rfl

/-! ### What is kept in the end -/
def kept (L : List (Int × Nat)) (t : Nat) : List Int := (L.filter (fun p => decide (p.2 < t))).map Prod.fst
def seen (L : List (Int × Nat)) (t : Nat) (left : Lit → Bool) : List Int := (L.filter (fun p => decide (p.2 = t) && !left (.int .i64 p.1))).map Prod.fst
theorem kept_zero (L : List (Int × Nat)) : kept L 0 = [] := by unfold kept; simp
theorem kept_all {L : List (Int × Nat)} {t : Nat} (h : Times L t) : kept L t = L.map Prod.fst := by
  unfold kept
  rw [List.filter_eq_self.2 (fun p hp => by simpa using h.lt p hp)]
theorem filter_next : ∀ {L : List (Int × Nat)} (t : Nat), L.Pairwise (fun p q => p.2 < q.2) → L.filter (fun p => decide (p.2 < t + 1)) = L.filter (fun p => decide (p.2 < t)) ++ L.filter (fun p => decide (p.2 = t))
  | [], _, _ => rfl
  | p :: L, t, h => by
    have h := List.pairwise_cons.1 h
    have ih := filter_next t h.2
    by_cases h1 : p.2 < t
    · have h2 : p.2 < t + 1 := by omega
      have h3 : ¬ p.2 = t := by omega
      simp only [List.filter_cons, h1, h2, h3, decide_true, decide_false, if_true, ih, List.cons_append, Bool.false_eq_true, if_false]
    · have e1 : L.filter (fun p => decide (p.2 < t)) = [] := List.filter_eq_nil_iff.2 (fun q hq => by have := h.1 q hq; simp; omega)
      have e2 : L.filter (fun p => decide (p.2 = t)) = [] := List.filter_eq_nil_iff.2 (fun q hq => by have := h.1 q hq; simp; omega)
      rw [e1, e2] at ih
      by_cases h2 : p.2 = t
      · simp only [List.filter_cons, h2, decide_true, decide_false, if_true, ih, e1, e2, Bool.false_eq_true, if_false, List.nil_append, Nat.lt_irrefl, Nat.lt_succ_self]
      · have h3 : ¬ p.2 < t + 1 := by omega
        simp only [List.filter_cons, h1, h2, h3, decide_false, ih, e1, e2, Bool.false_eq_true, if_false]
theorem filter_one : ∀ {L : List (Int × Nat)} {x : Int} {t : Nat}, L.Pairwise (fun p q => p.2 < q.2) → (x, t) ∈ L → L.filter (fun p => decide (p.2 = t)) = [(x, t)]
  | [], _, _, _, h => by simp at h
  | p :: L, x, t, h, hx => by
    have h := List.pairwise_cons.1 h
    rcases List.mem_cons.1 hx with e | e
    · subst e
      have e2 : L.filter (fun p => decide (p.2 = t)) = [] := List.filter_eq_nil_iff.2 (fun q hq => by have := h.1 q hq; simp at this ⊢; omega)
      simp [e2]
    · have := h.1 _ e
      have h3 : ¬ p.2 = t := by simp at this; omega
      simp only [List.filter_cons, h3, decide_false, Bool.false_eq_true, if_false]
      exact filter_one h.2 e
theorem seen_none {D : DataW Unit} {L : List (Int × Nat)} (h : Reads D L) (t : Nat) : seen L t (Maps.has D) = [] := by
  unfold seen
  rw [List.filter_eq_nil_iff.2 (fun p hp => ?_)]
  · rfl
  · rw [h.has p.1]
    have : p.1 ∈ L.map Prod.fst := List.mem_map.2 ⟨p, hp, rfl⟩
    simp [this]
theorem seen_all {L : List (Int × Nat)} {left : Lit → Bool} (hl : ∀ kl, left kl = false) {n : Nat} (h : Times L n) (t : Nat) : kept L t ++ seen L t left = kept L (t + 1) := by
  unfold kept seen
  rw [filter_next t h.rise, List.map_append]
  congr 2
  exact List.filter_congr (fun p _ => by rw [hl]; simp)
theorem seen_other {L : List (Int × Nat)} {left : Lit → Bool} {n : Nat} (h : Times L n) {x : Int} {u t : Nat} (hx : (x, u) ∈ L) (hu : u ≠ t) : seen L t (fun z => left z && !z.sameKey (.int .i64 x)) = seen L t left := by
  unfold seen
  congr 1
  refine List.filter_congr (fun p hp => ?_)
  show (decide (p.2 = t) && !(left (.int .i64 p.1) && !(Lit.int .i64 p.1).sameKey (.int .i64 x))) = _
  rw [left_same]
  by_cases e : p.2 = t
  · have : p.1 ≠ x := fun e2 => hu (by rw [← e]; exact one_time h.nodup hx (by rw [← e2]; exact hp))
    simp [e, this]
  · simp [e]
theorem seen_this {L : List (Int × Nat)} {left : Lit → Bool} {n : Nat} (h : Times L n) {x : Int} {t : Nat} (hx : (x, t) ∈ L) (hl : left (.int .i64 x) = true) : seen L t left = [] ∧ seen L t (fun z => left z && !z.sameKey (.int .i64 x)) = [x] := by
  have e := filter_one h.rise hx
  have f : ∀ g : Lit → Bool, seen L t g = (((L.filter (fun p => decide (p.2 = t))).filter (fun p => !g (.int .i64 p.1))).map Prod.fst) := fun g => by
    unfold seen
    rw [List.filter_filter]
    congr 1
    exact List.filter_congr (fun p _ => by rw [Bool.and_comm])
  rw [f, f, e]
  refine ⟨by simp [hl], ?_⟩
  rw [List.filter_cons_of_pos (by show (!(left (.int .i64 x) && !(Lit.int .i64 x).sameKey (.int .i64 x))) = true; rw [left_same]; simp)]
  rfl

set_option maxHeartbeats 2000000 in
theorem pool_ref (w : World) (rule : Int) (k : Nat) (a : Option Addr) (c : Nat) (refs : List Int) (h : IntsAt w a refs) (hcap : refs.length ≤ c) (hwf : ∀ x ∈ refs, (Lit.int .i64 x).wf = true) (hk1 : 1 ≤ k) (hk2 : k ≤ 50) (hn : refs.length ≤ 2000) :
    Calls Try.prog 68 #[.int .i64 rule, .int .i64 (k : Int), .slice a refs.length c] w fun e w' => ∃ a1 c1 a2 c2, e = .returned (.tuple #[.slice a1 (Pl.go id (refS rule k) [] refs).1.length c1, .slice a2 (Pl.go id (refS rule k) [] refs).2.length c2]) ∧
      BoolsAt w' a1 (Pl.go id (refS rule k) [] refs).1 ∧ IntsAt w' a2 (Pl.go id (refS rule k) [] refs).2 ∧ Below w.heap.size w w' := by
  have hmm := @run_makeMap Try.prog
  obtain ⟨i4, bi, bz0, bz1, bz2⟩ := info_parts bool_info
  obtain ⟨i3, ii, iz0, iz1, iz2⟩ := info_parts int_info
  have H := hid h
  have HW := hid hwf
  obtain ⟨O, hO⟩ : ∃ O, O = Pl.go id (refS rule k) [] refs := ⟨_, rfl⟩
  rw [← hO]
  have HO := hid hO
  have U0 : Hid (RefAt rule k refs w (w.alloc (.map #[] 0)) (.slice none 0 0) (.map []) [] []) :=
    ⟨World.ownsMap_made w _ _ _, Reads.empty, Times.nil _, Nat.zero_le _, OwnR.nil _ _, bx w _, by simp, Nat.zero_le _, fun _ h => by simp at h, by simp⟩
  have nn : (refs.length : Int) ≤ 2000 := by omega
  have kk : (k : Int) ≤ 50 := by omega
  clear h hwf hO
  go_enter Try.func68, Try.ntmps68
  go_wp2_with fail
  go_loopw [21, 9] (fun i hv wr => ∃ (t : Nat) (D : DataW Unit) (L : List (Int × Nat)) (Hs : List Bool), t ≤ refs.length ∧ i = .int .i64 (t : Int) ∧ Hid (t = Hs.length) ∧ Hid (RefAt rule k refs w wr hv D L Hs)) (fun i _ _ => refs.length - (intOf i).toNat)
  case atStart => exact ⟨0, _, [], [], Nat.zero_le _, rfl, rfl, U0.out⟩
  case round =>
    obtain ⟨t, D, L, Hs, ht, rfl, hT, hU⟩ := hrel
    by_cases hlt : t < refs.length
    · obtain ⟨x, hx⟩ : ∃ x, refs[t]? = some x := ⟨_, List.getElem?_eq_getElem hlt⟩
      obtain ⟨b, o, rfl, d1⟩ := (H.out.below hU.out.below) t x hx
      have hwx := HW.out x (List.mem_of_getElem? hx)
      have hkey : keyOf Try.prog 3 (.int .i64 x) = some (.int .i64 x) := keyOf_int_mk Try.underlying3 hwx
      have k0 : (0 : Int) ≤ (t : Int) := by omega
      have k1 : (t : Int) < (refs.length : Int) := by omega
      have HX : Hid (refs[Hs.length]? = some x) := by show _ = _; rw [← hT.out]; exact hx
      have HXt := hid hx
      have hh := hU.out.reads.has x
      have hmap := hU.out.map
      rw [← hT.out] at hmap
      obtain ⟨va, vc, rfl, _⟩ := hU.out.hits.at_
      clear hx
      have hwt : (Lit.int .i64 (t : Int)).wf = true := WalkArith.wf_i64 (by omega)
      by_cases hm : x ∈ L.map Prod.fst
      · rw [decide_eq_true hm] at hh
        go_wp2_with (at_lookup; refine wpList_lookup_own_ok_int _ rfl _ _ 153 rfl 3 3 .i64 law3 Try.underlying153 Try.underlying3 (zero3 _) w.heap.size t D rfl hmap _ _ rfl hkey ?_)
        intro cc hat hwc
        clear hat hwc
        have hown : wr.ownsRow (w.heap.size + 1) 4 1 (.slice va Hs.length vc) Hs.length (Hs.map Value.bool) := hU.out.hits
        have hs2 := hU.out.size
        have hHl : Hs.length ≤ 2000 := by rw [← hT.out]; omega
        go_wp2_with (at_builtin; refine wpList_append_own _ rfl _ _ 49 rfl (w.heap.size + 1) 4 i4 (.bool false) 1 1 Try.underlying49 bi bz0 bz1 bz2 rfl (by decide) _ _ _ rfl (hown.alloc _) ⟨wr.heap.size, 0, none⟩ 1 1 [.bool true] rfl rfl ?c1 ?c2 ?c3 ?c4 ?c5 ?_)
        case c1 => exact cell_one_new _ _ _
        case c2 => intro u hu; simp at hu; subst hu; rfl
        case c3 => unfold maxLen; omega
        case c4 => omega
        case c5 => simp; omega
        intro v' w4 hown' hgrow hnil
        obtain ⟨m1, m2, m3⟩ := hU.out.added _ hgrow
        have O4 : OwnBools w4 (w.heap.size + 1) v' (Hs ++ [true]) := OwnR.grows hown'
        obtain ⟨va', vc', e4, _⟩ := O4.at_
        obtain rfl : v' = .slice va' (Hs.length + 1) vc' := by rw [e4]; simp
        have A1 := hid m1
        have A2 := hid m2
        have A3 := hid m3
        have A4 := hid O4
        rw [← hT.out] at m1
        clear hown' hgrow hnil hown hs2 m2 m3 O4 hHl e4

        by_cases hr : rule = 1
        · have j1 : (rule == 1) = true := by simpa using hr
          have HR := hid hr
          clear hr
          go_wp2_with (at_mapUpdate; refine wpList_mapUpdate_own _ rfl _ _ _ 153 rfl 3 3 law3 Try.underlying153 _ w.heap.size t _ rfl m1 (by unfold maxLen; omega) _ _ _ rfl rfl hkey _ [] (plainElem_int Try.underlying3 hwt) ?_)
          intro w5 hown5 hgrow5
          have N : Hid (∃ D' L', RefAt rule k refs w w5 (.slice va' (Hs.length + 1) vc') D' L' (Hs ++ [true])) := by
            obtain ⟨p, hp, hpe⟩ := List.mem_iff_getElem.1 hm
            have hp' : p < L.length := by simpa using hp
            have hpe' : L[p].1 = x := by simpa using hpe
            have hpi : (L.map Prod.fst).idxOf x = p := by
              refine idx_first (by rw [List.getElem?_eq_getElem hp, hpe]) (fun j hj e => ?_)
              obtain ⟨g1, g2⟩ := List.getElem?_eq_some_iff.1 e
              have := (List.pairwise_iff_getElem.1 hU.out.times.nodup) j p g1 hp hj
              exact this (g2.trans hpe.symm)
            have hTm := hU.out.times
            rw [← hT.out] at hTm
            have hrd := hU.out.reads.again hTm.nodup hp' t
            rw [hpe'] at hrd
            refine ⟨D.put (.int .i64 x) (.lit (.int .i64 (t : Int))), L.eraseIdx p ++ [(x, t)], ?_⟩
            have e := hU.out.next HX.out (w1 := w5) (hv' := .slice va' (Hs.length + 1) vc') (L' := L.eraseIdx p ++ [(x, t)]) (D' := D.put (.int .i64 x) (.lit (.int .i64 (t : Int)))) ?e1 (by rw [← hT.out]; exact hown5) hrd ?e2 ?e3 ?e4 (A2.out.grown hgrow5 (by have := A3.out; omega) (fun b hb => by cases hb; exact Nat.le_refl _)) (Nat.le_trans A3.out hgrow5.size) ?e5
            · rwa [decide_eq_true hm] at e
            case e1 =>
              unfold refS
              rw [if_pos hm, if_pos HR.out, List.map_append, map_eraseIdx, List.erase_eq_eraseIdx_of_idxOf (i := p) hpi]
              rfl
            case e2 =>
              rw [← hT.out]
              exact (hTm.erase p).add (by have := (mem_erase hTm.nodup hp').1; rwa [hpe'] at this)
            case e3 =>
              have := hU.out.room
              rw [List.length_append, List.length_eraseIdx_of_lt hp']
              simp
              omega
            case e4 =>
              rw [decide_eq_true hm]
              exact own_turn A4.out (Nat.lt_succ_self _) hgrow5
            case e5 =>
              intro q hq
              rcases List.mem_append.1 hq with hq | hq
              · exact hU.out.mem q (List.mem_of_mem_eraseIdx hq)
              · simp at hq; subst hq; exact List.mem_of_getElem? HX.out
          clear hown5 hgrow5 A1 A2 A3 A4 m1 hmap
          go_wp2_with fail
          go_roundw
          case rel => obtain ⟨D', L', e⟩ := N.out; exact ⟨t + 1, D', L', Hs ++ [true], by omega, by go_num, by show _ = _; rw [List.length_append, ← hT.out]; rfl, e⟩
          case measure => simp [intOf]; omega
        · have j1 : (rule == 1) = false := by simpa using hr
          have N : Hid (RefAt rule k refs w w4 (.slice va' (Hs.length + 1) vc') D L (Hs ++ [true])) := by
            have e := hU.out.next HX.out (w1 := w4) (hv' := .slice va' (Hs.length + 1) vc') (L' := L) (D' := D) (by unfold refS; rw [if_pos hm, if_neg hr]) (map_mono A1.out (Nat.le_succ _)) hU.out.reads hU.out.times.later hU.out.room (by rw [decide_eq_true hm]; exact A4.out) A2.out A3.out hU.out.mem
            rwa [decide_eq_true hm] at e
          clear A1 A2 A3 A4 m1 hmap hr
          go_wp2_with fail
          go_roundw
          case rel => exact ⟨t + 1, D, L, Hs ++ [true], by omega, by go_num, by show _ = _; rw [List.length_append, ← hT.out]; rfl, N⟩
          case measure => simp [intOf]; omega
      · rw [decide_eq_false hm] at hh
        go_wp2_with (at_lookup; refine wpList_lookup_own_ok_int _ rfl _ _ 153 rfl 3 3 .i64 law3 Try.underlying153 Try.underlying3 (zero3 _) w.heap.size t D rfl hmap _ _ rfl hkey ?_)
        intro cc hat hwc
        clear hat hwc
        have hown : wr.ownsRow (w.heap.size + 1) 4 1 (.slice va Hs.length vc) Hs.length (Hs.map Value.bool) := hU.out.hits
        have hs2 := hU.out.size
        have hHl : Hs.length ≤ 2000 := by rw [← hT.out]; omega
        go_wp2_with (at_builtin; refine wpList_append_own _ rfl _ _ 49 rfl (w.heap.size + 1) 4 i4 (.bool false) 1 1 Try.underlying49 bi bz0 bz1 bz2 rfl (by decide) _ _ _ rfl (hown.alloc _) ⟨wr.heap.size, 0, none⟩ 1 1 [.bool false] rfl rfl ?c1 ?c2 ?c3 ?c4 ?c5 ?_)
        case c1 => exact cell_one_new _ _ _
        case c2 => intro u hu; simp at hu; subst hu; rfl
        case c3 => unfold maxLen; omega
        case c4 => omega
        case c5 => simp; omega
        intro v' w4 hown' hgrow hnil
        obtain ⟨m1, m2, m3⟩ := hU.out.added _ hgrow
        have O4 : OwnBools w4 (w.heap.size + 1) v' (Hs ++ [false]) := OwnR.grows hown'
        obtain ⟨va', vc', e4, _⟩ := O4.at_
        obtain rfl : v' = .slice va' (Hs.length + 1) vc' := by rw [e4]; simp
        have A1 := hid m1
        have A2 := hid m2
        have A3 := hid m3
        have A4 := hid O4
        rw [← hT.out] at m1
        clear hown' hgrow hnil hown hs2 m2 m3 O4 hHl e4

        have hsz := hU.out.reads.size
        by_cases hl : L.length = k
        · have j1 : ((Maps.size D : Int) == (k : Int)) = true := by rw [hsz, hl]; simp
          have j1' : (Maps.size D == k) = true := by rw [hsz, hl]; simp
          have HL := hid hl
          clear hsz hl
          go_wp2_with (at_len; refine wpList_len_own _ rfl _ 153 rfl 3 3 Try.underlying153 (plainElem Try.prog 3) w.heap.size t D rfl m1 ?_)
          have KL := hid (leaves_any w4 rule w.heap.size t D L (some ⟨b, o, none⟩) c refs t x m1 hU.out.reads hU.out.times.nodup hU.out.times.rise (by rw [HL.out]; omega) (H.out.below A2.out) hcap hn HXt.out hm)
          go_wp2_with fail
          refine (KL.out).mono ?_
          rintro rr w5 ⟨oo, rfl, hoL, hb5⟩
          have OL := hid hoL
          have M5 := map_below m1 hb5
          have hoo : (Lit.int .i64 oo).wf = true := by
            obtain ⟨h1, h2⟩ := OL.out
            rw [h2]
            exact HW.out _ (hU.out.mem _ (List.getElem_mem h1))
          have B5 := hid hb5
          clear hoL hb5 KL
          have hkey2 : keyOf Try.prog 3 (.int .i64 oo) = some (.int .i64 oo) := keyOf_int_mk Try.underlying3 hoo
          go_wp2_with (at_delete; refine wpList_delete_own _ rfl _ _ 153 3 rfl 3 law3 Try.underlying153 _ w.heap.size t D rfl M5 _ _ rfl hkey2 ?_)
          intro w6 hown6 hturn6
          have T6 := hid hturn6
          clear hturn6
          go_wp2_with (at_mapUpdate; refine wpList_mapUpdate_own _ rfl _ _ _ 153 rfl 3 3 law3 Try.underlying153 _ w.heap.size t _ rfl hown6 (by unfold maxLen; omega) _ _ _ rfl rfl hkey _ [] (plainElem_int Try.underlying3 hwt) ?_)
          intro w7 hown7 hgrow7
          have N : Hid (∃ D' L', RefAt rule k refs w w7 (.slice va' (Hs.length + 1) vc') D' L' (Hs ++ [false])) := by
            obtain ⟨h1, h2⟩ := OL.out
            obtain ⟨p, hpe⟩ : ∃ p, p = lv rule (L.map Prod.fst) (refs.drop (t + 1)) := ⟨_, rfl⟩
            have hp : p < L.length := by rw [hpe]; exact h1
            have hoe : oo = L[p].1 := by
              have : ∀ q (hq : q < L.length), q = p → oo = L[q].1 → oo = L[p].1 := fun q hq e h => by subst e; exact h
              exact this _ h1 hpe.symm h2
            have hTm := hU.out.times
            rw [← hT.out] at hTm
            have hrd := hU.out.reads.del hTm.nodup hp
            rw [← hoe] at hrd
            have hxn : x ∉ (L.eraseIdx p).map Prod.fst := fun e => hm (by rw [map_eraseIdx] at e; exact List.mem_of_mem_eraseIdx e)
            have hrd2 := hrd.add hxn t
            have hg6 := T6.out.grown
            refine ⟨(D.del (.int .i64 oo)).put (.int .i64 x) (.lit (.int .i64 (t : Int))), L.eraseIdx p ++ [(x, t)], ?_⟩
            have e := hU.out.next HX.out (w1 := w7) (hv' := .slice va' (Hs.length + 1) vc') (L' := L.eraseIdx p ++ [(x, t)]) (D' := (D.del (.int .i64 oo)).put (.int .i64 x) (.lit (.int .i64 (t : Int)))) ?e1 (by rw [← hT.out]; exact hown7) hrd2 ?e2 ?e3 ?e4 ?e6 ?e7 ?e5
            · rwa [decide_eq_false hm] at e
            case e1 =>
              unfold refS
              rw [if_neg hm, if_pos (by rw [List.length_map]; exact HL.out), List.map_append, map_eraseIdx, hpe, hT.out]
              rfl
            case e2 =>
              rw [← hT.out]
              exact (hTm.erase p).add hxn
            case e3 =>
              have := hU.out.room
              rw [List.length_append, List.length_eraseIdx_of_lt hp]
              simp
              omega
            case e4 =>
              rw [decide_eq_false hm]
              exact own_turn (own_turn (A4.out.below B5.out) (Nat.lt_succ_self _) hg6) (Nat.lt_succ_self _) hgrow7
            case e6 => exact ((below_tr A2.out B5.out).grown hg6 (by have := A3.out; have := B5.out.size; omega) (fun b hb => by cases hb; exact Nat.le_refl _)).grown hgrow7 (by have := A3.out; have := B5.out.size; have := hg6.size; omega) (fun b hb => by cases hb; exact Nat.le_refl _)
            case e7 => have := A3.out; have := B5.out.size; have := hg6.size; have := hgrow7.size; omega
            case e5 =>
              intro q hq
              rcases List.mem_append.1 hq with hq | hq
              · exact hU.out.mem q (List.mem_of_mem_eraseIdx hq)
              · simp at hq; subst hq; exact List.mem_of_getElem? HX.out
          clear hown7 hgrow7 hown6 T6 A1 A2 A3 A4 m1 hmap M5
          go_wp2_with fail
          go_roundw
          case rel => obtain ⟨D', L', e⟩ := N.out; exact ⟨t + 1, D', L', Hs ++ [false], by omega, by go_num, by show _ = _; rw [List.length_append, ← hT.out]; rfl, e⟩
          case measure => simp [intOf]; omega
        · have j1 : ((Maps.size D : Int) == (k : Int)) = false := by rw [hsz]; simp; omega
          have j1' : (Maps.size D == k) = false := by rw [hsz]; simp; omega
          have HL : Hid (¬ L.length = k) := hl
          clear hsz hl
          go_wp2_with (first | (at_len; refine wpList_len_own _ rfl _ 153 rfl 3 3 Try.underlying153 (plainElem Try.prog 3) w.heap.size t D rfl m1 ?_) | (at_mapUpdate; refine wpList_mapUpdate_own _ rfl _ _ _ 153 rfl 3 3 law3 Try.underlying153 _ w.heap.size t _ rfl m1 (by unfold maxLen; omega) _ _ _ rfl rfl hkey _ [] (plainElem_int Try.underlying3 hwt) ?_))
          intro w7 hown7 hgrow7
          have N : Hid (∃ D' L', RefAt rule k refs w w7 (.slice va' (Hs.length + 1) vc') D' L' (Hs ++ [false])) := by
            have hTm := hU.out.times
            rw [← hT.out] at hTm
            refine ⟨D.put (.int .i64 x) (.lit (.int .i64 (t : Int))), L ++ [(x, t)], ?_⟩
            have e := hU.out.next HX.out (w1 := w7) (hv' := .slice va' (Hs.length + 1) vc') (L' := L ++ [(x, t)]) (D' := D.put (.int .i64 x) (.lit (.int .i64 (t : Int)))) ?e1 (by rw [← hT.out]; exact hown7) (hU.out.reads.add hm t) ?e2 ?e3 ?e4 (A2.out.grown hgrow7 (by have := A3.out; omega) (fun b hb => by cases hb; exact Nat.le_refl _)) (Nat.le_trans A3.out hgrow7.size) ?e5
            · rwa [decide_eq_false hm] at e
            case e1 =>
              unfold refS
              rw [if_neg hm, if_neg (by rw [List.length_map]; exact HL.out), List.map_append]
              rfl
            case e2 =>
              rw [← hT.out]
              exact hTm.add hm
            case e3 =>
              have := hU.out.room
              have := HL.out
              rw [List.length_append]
              simp
              omega
            case e4 =>
              rw [decide_eq_false hm]
              exact own_turn A4.out (Nat.lt_succ_self _) hgrow7
            case e5 =>
              intro q hq
              rcases List.mem_append.1 hq with hq | hq
              · exact hU.out.mem q hq
              · simp at hq; subst hq; exact List.mem_of_getElem? HX.out
          clear hown7 hgrow7 A1 A2 A3 A4 m1 hmap
          go_wp2_with fail
          go_roundw
          case rel => obtain ⟨D', L', e⟩ := N.out; exact ⟨t + 1, D', L', Hs ++ [false], by omega, by go_num, by show _ = _; rw [List.length_append, ← hT.out]; rfl, e⟩
          case measure => simp [intOf]; omega
    · obtain rfl : t = refs.length := by omega
      have j3 : decide ((refs.length : Int) < (refs.length : Int)) = false := by simp
      obtain ⟨va, vc, rfl, _⟩ := hU.out.hits.at_
      have HH : Hid (BoolsAt wr va Hs) := by
        obtain ⟨a', c', e, i, _⟩ := hU.out.hits.at_
        injection e with e1 _ _
        rw [e1]; exact i
      have hTm := hU.out.times
      rw [← hT.out] at hTm
      have HT := hid hTm
      have hrun := hU.out.run
      rw [← hT.out, List.drop_length] at hrun
      have HE : Hid (O = (Hs, L.map Prod.fst)) := by
        show _ = _
        rw [HO.out, hrun]
        simp [Pl.go]
      have HR := hid hU.out.reads
      have HM := hid hU.out.map
      have HB := hid hU.out.below
      have HS : Hid (w.heap.size < wr.heap.size) := hU.out.size
      have hLl : L.length ≤ 50 := Nat.le_trans hU.out.room hk2
      clear hTm hrun hU
      obtain ⟨wq, hwq⟩ : ∃ wq, wq = wr := ⟨_, rfl⟩
      subst hwq
      go_wp2_with fail
      go_loopw [58, 14] (fun i pv w2 => ∃ t : Nat, t ≤ refs.length ∧ i = .int .i64 (t : Int) ∧ Hid (OwnInts w2 wq.heap.size pv (kept L t)) ∧ Hid (Below wq.heap.size wq w2)) (fun i _ _ => refs.length - (intOf i).toNat)
      case atStart => exact ⟨0, Nat.zero_le _, rfl, by rw [kept_zero]; exact OwnR.nil _ _, Below.refl _ _⟩
      case round =>
        obtain ⟨t, ht, rfl, hK, hB⟩ := hrel
        obtain ⟨w8, hw8⟩ : ∃ w8, w8 = wr := ⟨_, rfl⟩
        subst hw8
        by_cases hlt : t < refs.length
        · have k0 : (0 : Int) ≤ (t : Int) := by omega
          have k1 : (t : Int) < (refs.length : Int) := by omega
          have hmap := map_below HM.out hB.out
          obtain ⟨pa, pc, rfl, _⟩ := hK.out.at_
          go_wp2_with (at_range; refine wpList_range_own _ rfl _ 153 rfl 3 3 law3 Try.underlying153 (plainElem Try.prog 3) w.heap.size Hs.length D rfl hmap ?_; intro w0 hrg0 hg0 hs0)
          have R0 := hid hrg0
          have K0 : Hid (OwnInts w0 wq.heap.size (.slice pa (kept L t).length pc) (kept L t ++ seen L t (Maps.has D))) := by rw [seen_none HR.out, List.append_nil]; exact hK.out.keep (fun g hg => hg0.block g (hK.out.lt g hg).2 (by simp))
          have B0 : Hid (Below wq.heap.size wq w0) := hB.out.grown hg0 hB.out.size (fun g hg => by cases hg)
          clear hrg0 hg0 hs0 hmap
          go_frame
          go_loopw [14] (fun pv w2 => ∃ (left : Lit → Bool) (cnt : Nat), Hid (w2.ranges Try.prog 3 (plainElem Try.prog 3) w.heap.size w8.heap.size Hs.length D left cnt) ∧ Hid (OwnInts w2 wq.heap.size pv (kept L t ++ seen L t left)) ∧ Hid (Below wq.heap.size wq w2)) (fun _ w2 => w2.rangeLeft w.heap.size w8.heap.size)
          case atStart => exact ⟨_, _, R0.out, K0.out, B0.out⟩
          case round =>
            obtain ⟨left, cnt, hrg, hK2, hB2⟩ := hrel
            obtain ⟨Kl, hKl⟩ : ∃ Kl, Kl = kept L t ++ seen L t left := ⟨_, rfl⟩
            rw [← hKl] at hK2
            have HKl := hid hKl
            clear hKl
            obtain ⟨ga, gc, rfl, _⟩ := hK2.out.at_
            go_wp2_with (at_next; refine wpList_next_ranges_ii _ rfl _ rfl 3 3 .i64 .i64 law3 Try.underlying3 Try.underlying3 w.heap.size w8.heap.size Hs.length _ _ _ rfl hrg.out ?_ ?_)
            · intro _ hl0
              have N1 : Hid (OwnInts wr wq.heap.size (.slice ga Kl.length gc) (kept L (t + 1))) := by rw [← seen_all hl0 HT.out t, ← HKl.out]; exact hK2.out
              clear hl0
              go_wp2_with fail
              go_roundw
              case rel => exact ⟨t + 1, by omega, by go_num, N1, hB2⟩
              case measure => simp [intOf]; omega
            · intro x cc w1 cnt1 hwx hwc hlx hat hrg1 hlt1 hg1 hs1 hen
              obtain ⟨u, hm, rfl⟩ := HR.out.time hat
              have hne : ∀ g, (Value.slice ga Kl.length gc).ownBlock = some g → g ≠ w8.heap.size ∧ g < wr.heap.size := fun g hg => by
                refine ⟨fun e => ?_, (hK2.out.lt g hg).2⟩
                obtain ⟨es, clock, since, sn, c0, _, _, _, _, g5, _⟩ := hrg.out
                rcases hK2.out.2 with ⟨e1, _⟩ | ⟨g', cap, cur, hv, _, hh, _⟩
                · rw [e1] at hg; cases hg
                · rw [hv] at hg
                  have : g' = g := by simpa [Value.ownBlock] using hg
                  rw [this, e, g5] at hh
                  cases hh
              have hK3 : OwnInts w1 wq.heap.size (.slice ga Kl.length gc) Kl := hK2.out.keep (fun g hg => hg1.block g (hne g hg).2 (fun e => (hne g hg).1 (by injection e)))
              have hq8 : wq.heap.size ≤ w8.heap.size := hB.out.size
              have B1 : Hid (Below wq.heap.size wq w1) := hB2.out.grown hg1 hB2.out.size (fun g hg => by cases hg; exact hq8)
              have C1 : Hid (cnt1 < cnt) := hlt1
              have R1 := hid hrg1
              have NE := hid hne
              by_cases hut : u = t
              · subst hut
                have j5 : ((u : Int) == (u : Int)) = true := by simp
                obtain ⟨s1, s2⟩ := seen_this HT.out hm hlx
                have hKe : Kl = kept L u := by rw [HKl.out, s1, List.append_nil]
                have S2 : Hid (kept L u ++ seen L u (fun z => left z && !z.sameKey (.int .i64 x)) = Kl ++ [x]) := by show _ = _; rw [s2, hKe]
                have KL : Kl.length ≤ 50 := Nat.le_trans (by rw [hKe]; unfold kept; rw [List.length_map]; exact List.length_filter_le _ _) hLl
                have hown : w1.ownsRow wq.heap.size 3 1 (.slice ga Kl.length gc) Kl.length (Kl.map (Value.int .i64)) := hK3
                have hsz := B1.out.size
                have hrl := ranges_lt hrg1
                clear hat hwx hwc hlx hrg1 hlt1 hg1 hs1 hm s1 s2 hne hK3 hKe
                go_wp2_with (at_builtin; refine wpList_append_own _ rfl _ _ 55 rfl wq.heap.size 3 i3 (.int .i64 0) 1 8 Try.underlying55 ii iz0 iz1 iz2 rfl (by decide) _ _ _ rfl (hown.alloc _) ⟨w1.heap.size, 0, none⟩ 1 1 [.int .i64 x] rfl rfl ?c1 ?c2 ?c3 ?c4 ?c5 ?_)
                case c1 => exact cell_one_new _ _ _
                case c2 => exact ints_oneCell .i64 [x]
                case c3 => unfold maxLen; omega
                case c4 => omega
                case c5 => simp; omega
                intro v' w9 hown' hgrow hnil
                have O9 : OwnInts w9 wq.heap.size v' (Kl ++ [x]) := OwnR.grows hown'
                have hsa : ∀ o, (w1.alloc o).heap.size = w1.heap.size + 1 := fun o => by simp
                have hrow : ∀ g, (Value.slice ga Kl.length gc).ownBlock = some g → wq.heap.size ≤ g := fun g hg => (World.ownsRow.lt hown g hg).1
                have R9 : Hid (w9.ranges Try.prog 3 (plainElem Try.prog 3) w.heap.size w8.heap.size Hs.length D (fun z => left z && !z.sameKey (.int .i64 x)) cnt1) :=
                  ranges_of R1.out ((hgrow.block _ (by rw [hsa]; omega) (fun e => by have := hrow _ e.symm; have := HS.out; omega)).trans (Below.heap_alloc _ _ _ hrl.1)) ((hgrow.block _ (by rw [hsa]; omega) (fun e => (NE.out _ e.symm).1 rfl)).trans (Below.heap_alloc _ _ _ hrl.2))
                have B9 : Hid (Below wq.heap.size wq w9) := (B1.out.alloc hsz _).grown hgrow (by rw [hsa]; omega) hrow
                have N9 : Hid (OwnInts w9 wq.heap.size v' (kept L u ++ seen L u (fun z => left z && !z.sameKey (.int .i64 x)))) := by rw [S2.out]; exact O9
                obtain ⟨va', vc', e9, _⟩ := O9.at_
                obtain rfl : v' = .slice va' (Kl.length + 1) vc' := by rw [e9]; simp
                clear hown' hgrow hnil hown O9 hsa hrow hrl e9
                go_wp2_with fail
                go_roundw
                case rel => exact ⟨_, cnt1, R9, N9, B9⟩
                case measure => rw [R9.out.left_eq, hrg.out.left_eq]; exact C1.out
              · have j5 : ((u : Int) == (t : Int)) = false := by simp; omega
                have S2 := seen_other (left := left) HT.out hm hut
                have N9 : Hid (OwnInts w1 wq.heap.size (.slice ga Kl.length gc) (kept L t ++ seen L t (fun z => left z && !z.sameKey (.int .i64 x)))) := by rw [S2, ← HKl.out]; exact hK3
                clear hat hwx hwc hlx hrg1 hlt1 hg1 hs1 hm hne hK3 S2
                go_wp2_with fail
                go_roundw
                case rel => exact ⟨_, cnt1, R1, N9, B1⟩
                case measure => rw [R1.out.left_eq, hrg.out.left_eq]; exact C1.out
        · obtain rfl : t = refs.length := by omega
          have j4 : decide ((refs.length : Int) < (refs.length : Int)) = false := by simp
          obtain ⟨pa, pc, rfl, hI, _⟩ := hK.out.at_
          rw [kept_all HT.out] at hI hK
          have HI := hid hI
          rw [kept_all HT.out]
          clear hI
          go_wp2_with fail
          go_ret2
          refine ⟨va, vc, pa, pc, ?_, ?_, ?_, ?_⟩
          · rw [HE.out]; rfl
          · rw [HE.out]; exact HH.out.below hB.out
          · rw [HE.out]; exact HI.out
          · exact below_tr HB.out hB.out

end Go.Proofs.Ytlcpioeobnjcdaa.PPool
