/- quirref.Clock, walked: it answers what the plain words say. Conditions: the room is from 1 to 50, at most 2000 refs. -/
import Derived.Test.YtlcpioeobnjcdaaPoolRefIdx
namespace Go.Proofs.Ytlcpioeobnjcdaa.PPool
open Go Go.RowKit
set_option maxRecDepth 100000

theorem ptr_info : (Try.prog.info? 149).map (fun i => (i.zero, i.size, i.bytes)) = some (some (.pointer none), 1, 8) := by kernel_rfl
/-- Rows and boxes are of unlike types. -/
theorem not_box {α : Type} {enc : α → Value} {ty : TypeId} (ht : ty ≠ 151) {w : World} {base : Nat} {v : Value} {X : List α} (h : OwnR enc ty w base v X) {bs : List Nat} {P : List Int} {m : List Bool} (hF : Frames w bs P m) : ∀ g, v.ownBlock = some g → g ∉ bs := by
  intro g hg hm
  obtain ⟨j, hj, e⟩ := List.mem_iff_getElem.1 hm
  obtain ⟨b', x, y, h1, _, _, h4⟩ := hF.at_ (j := j) (by rw [← hF.len]; exact hj)
  rw [List.getElem?_eq_getElem hj, e] at h1
  cases h1
  rcases h.2 with ⟨e1, _⟩ | ⟨g', cap, cur, hv, _, hh, _⟩
  · rw [e1] at hg; cases hg
  · rw [hv] at hg
    have : g' = g := by simpa [Value.ownBlock] using hg
    rw [this] at hh
    unfold FBox at h4
    rw [hh] at h4
    injection h4 with h4
    injection h4 with _ h4 _
    exact ht h4
theorem not_row {α β : Type} {enc : α → Value} {enc' : β → Value} {t t' : TypeId} (ht : t ≠ t') {w : World} {base base' : Nat} {v v' : Value} {X : List α} {Y : List β} (h : OwnR enc t w base v X) (h' : OwnR enc' t' w base' v' Y) : ∀ g, v.ownBlock = some g → v'.ownBlock = some g → False := by
  intro g hg hg'
  rcases h.2 with ⟨e1, _⟩ | ⟨g1, cap, cur, hv, _, hh, _⟩
  · rw [e1] at hg; cases hg
  · rcases h'.2 with ⟨e2, _⟩ | ⟨g2, cap2, cur2, hv2, _, hh2, _⟩
    · rw [e2] at hg'; cases hg'
    · rw [hv] at hg
      rw [hv2] at hg'
      have e1 : g1 = g := by simpa [Value.ownBlock] using hg
      have e2 : g2 = g := by simpa [Value.ownBlock] using hg'
      rw [e1] at hh
      rw [e2, hh] at hh2
      injection hh2 with hh2
      injection hh2 with _ hh2 _
      exact ht hh2

abbrev CkS := (List Bool × Nat) × List Int
/-- How the reference's clock stands behind some refs. -/
structure CkAt (k : Nat) (refs : List Int) (w wr : World) (fv hv : Value) (hand : Nat) (bs : List Nat) (s : CkS) (H : List Bool) : Prop where
  row : OwnR ptrV 149 wr w.heap.size fv bs
  hits : OwnBools wr w.heap.size hv H
  fr : Frames wr bs s.2 s.1.1
  bge : ∀ b ∈ bs, w.heap.size ≤ b
  mlen : s.1.1.length = 50
  hd : s.1.2 = hand % k
  hb : hand ≤ 51 * H.length
  room : s.2.length ≤ k
  below : Below w.heap.size w wr
  le : H.length ≤ refs.length
  run : Pl.clockR.run k ((List.replicate 50 false, 0), []) refs = (H ++ (Pl.clockR.run k s (refs.drop H.length)).1, (Pl.clockR.run k s (refs.drop H.length)).2)
theorem CkAt.keepB {k : Nat} {refs : List Int} {w wr : World} {fv hv : Value} {hand : Nat} {bs : List Nat} {s : CkS} {H : List Bool} (h : CkAt k refs w wr fv hv hand bs s H) {w1 : World} (hb : Below wr.heap.size wr w1) : CkAt k refs w w1 fv hv hand bs s H :=
  ⟨h.row.below hb, h.hits.below hb, h.fr.below hb, h.bge, h.mlen, h.hd, h.hb, h.room, below_tr h.below hb, h.le, h.run⟩
theorem CkAt.next {k : Nat} {refs : List Int} {w wr : World} {fv hv : Value} {hand : Nat} {bs : List Nat} {s : CkS} {H : List Bool} (h : CkAt k refs w wr fv hv hand bs s H) {r : Int} (hr : refs[H.length]? = some r) {w1 : World} {fv' hv' : Value} {hand' : Nat} {bs' : List Nat} {s' : CkS} (e : s' = Pl.clockR.step k s r (refs.drop (H.length + 1)))
    (h1 : OwnR ptrV 149 w1 w.heap.size fv' bs') (h2 : OwnBools w1 w.heap.size hv' (H ++ [decide (r ∈ s.2)])) (h3 : Frames w1 bs' s'.2 s'.1.1) (h4 : ∀ b ∈ bs', w.heap.size ≤ b) (h5 : s'.1.1.length = 50) (h6 : s'.1.2 = hand' % k) (h7 : hand' ≤ hand + 51) (h8 : s'.2.length ≤ k) (h9 : Below w.heap.size w w1) :
    CkAt k refs w w1 fv' hv' hand' bs' s' (H ++ [decide (r ∈ s.2)]) := by
  obtain ⟨g1, g2⟩ := List.getElem?_eq_some_iff.1 hr
  have e1 : (H ++ [decide (r ∈ s.2)]).length = H.length + 1 := by simp
  refine ⟨h1, h2, h3, h4, h5, h6, by rw [e1]; have := h.hb; omega, h8, h9, by rw [e1]; omega, ?_⟩
  rw [h.run, e1, List.drop_eq_getElem_cons g1, g2]
  subst e
  simp [Pl.Rule.run, Pl.go]
/-- Behind an append to the bools. -/
theorem CkAt.said {k : Nat} {refs : List Int} {w wr : World} {fv hv : Value} {hand : Nat} {bs : List Nat} {s : CkS} {H : List Bool} (h : CkAt k refs w wr fv hv hand bs s H) (o : Obj) {w4 : World} (hg : (wr.alloc o).grownBy w4 hv.ownBlock) :
    OwnR ptrV 149 w4 w.heap.size fv bs ∧ Frames w4 bs s.2 s.1.1 ∧ Below w.heap.size w w4 ∧ wr.heap.size + 1 ≤ w4.heap.size := by
  have hsz : (wr.alloc o).heap.size = wr.heap.size + 1 := by simp
  have hbk : ∀ b, b < wr.heap.size → hv.ownBlock ≠ some b → w4.heap[b]? = wr.heap[b]? := fun b hb hne => (hg.block b (by omega) (fun e => hne e.symm)).trans (Below.heap_alloc wr o b hb)
  have hw := h.below.size
  refine ⟨h.row.keep (fun g hg' => hbk g (h.row.lt g hg').2 (fun e => not_row (by decide) h.row h.hits g hg' e)), h.fr.keep (fun b hb => hbk b (h.fr.lt b hb) (fun e => not_box (by decide) h.hits h.fr b e hb)), (h.below.alloc hw o).grown hg (by omega) (fun b hb => (h.hits.lt b hb).1), by have := hg.size; omega⟩

set_option maxHeartbeats 2000000 in
theorem clock_ref (w : World) (k : Nat) (a : Option Addr) (c : Nat) (refs : List Int) (h : IntsAt w a refs) (hk1 : 1 ≤ k) (hk2 : k ≤ 50) (hn : refs.length ≤ 2000) :
    Calls Try.prog 67 #[.int .i64 (k : Int), .slice a refs.length c] w fun e w' => ∃ a1 c1 a2 c2, e = .returned (.tuple #[.slice a1 (Pl.clockR.run k ((List.replicate 50 false, 0), []) refs).1.length c1, .slice a2 (Pl.clockR.run k ((List.replicate 50 false, 0), []) refs).2.2.length c2]) ∧
      BoolsAt w' a1 (Pl.clockR.run k ((List.replicate 50 false, 0), []) refs).1 ∧ IntsAt w' a2 (Pl.clockR.run k ((List.replicate 50 false, 0), []) refs).2.2 ∧ Below w.heap.size w w' := by
  have hmf : ∀ (fn : Fn) (first cap : Array Value) (w : World), (Instr.makeFunc fn first cap).run Try.prog w = .ok (.func fn first cap) w := fun _ _ _ _ => rfl
  obtain ⟨i4, bi, bz0, bz1, bz2⟩ := info_parts bool_info
  obtain ⟨i3, ii, iz0, iz1, iz2⟩ := info_parts int_info
  obtain ⟨ip, pi, pz0, pz1, pz2⟩ := info_parts ptr_info
  have H := hid h
  obtain ⟨O, hO⟩ : ∃ O, O = Pl.clockR.run k ((List.replicate 50 false, 0), []) refs := ⟨_, rfl⟩
  rw [← hO]
  have HO := hid hO
  have U0 : Hid (CkAt k refs w w (.slice none 0 0) (.slice none 0 0) 0 [] ((List.replicate 50 false, 0), []) []) :=
    ⟨OwnR.nil _ _, OwnR.nil _ _, ⟨rfl, fun j b x hb => by simp at hb, List.nodup_nil⟩, fun _ h => by simp at h, by simp, (Nat.zero_mod k).symm, Nat.zero_le _, Nat.zero_le _, Below.refl _ _, Nat.zero_le _, by simp⟩
  have nn : (refs.length : Int) ≤ 2000 := by omega
  have kk : (k : Int) ≤ 50 := by omega
  have k11 : (1 : Int) ≤ (k : Int) := by omega
  have kne : ((k : Int) == 0) = false := by simp; omega
  have kne2 : (k : Int) ≠ 0 := by omega
  clear h hO
  go_enter Try.func67, Try.ntmps67
  go_wp2_with fail
  go_loopw [17, 6, 7, 8] (fun i fv hv hn wr => ∃ (t hand : Nat) (bs : List Nat) (s : CkS) (Hs : List Bool), t ≤ refs.length ∧ i = .int .i64 (t : Int) ∧ hn = .int .i64 (hand : Int) ∧ Hid (t = Hs.length) ∧ Hid (CkAt k refs w wr fv hv hand bs s Hs)) (fun i _ _ _ _ => refs.length - (intOf i).toNat)
  case atStart => exact ⟨0, 0, [], _, [], Nat.zero_le _, rfl, rfl, rfl, U0.out⟩
  case round =>
    obtain ⟨t, hand, bs, s, Hs, ht, rfl, rfl, hT, hU⟩ := hrel
    obtain ⟨wa, hwa⟩ : ∃ wa, wa = wr := ⟨_, rfl⟩
    subst hwa
    by_cases hlt : t < refs.length
    · obtain ⟨x, hx⟩ : ∃ x, refs[t]? = some x := ⟨_, List.getElem?_eq_getElem hlt⟩
      obtain ⟨b, o, rfl, d1⟩ := (H.out.below hU.out.below) t x hx
      have k0 : (0 : Int) ≤ (t : Int) := by omega
      have k1 : (t : Int) < (refs.length : Int) := by omega
      have HX : Hid (refs[Hs.length]? = some x) := by show _ = _; rw [← hT.out]; exact hx
      have hHl : Hs.length ≤ 2000 := by rw [← hT.out]; omega
      have hhand : hand ≤ 102000 := by have := hU.out.hb; omega
      obtain ⟨va, vc, rfl, _⟩ := hU.out.hits.at_
      obtain ⟨fa, fc, rfl, hfa, _⟩ := hU.out.row.at_
      have U1 := hid (hU.out.keepB (bx wa (.cells #[.int .i64 x] 3)))
      have hrb : (wa.alloc (.cells #[.int .i64 x] 3)).cell? ⟨wa.heap.size, 0, none⟩ = some (.int .i64 x) := by rw [cell_of_row _ _ _ _ _ _ (heap_alloc_new wa _)]; rfl
      have KI := hid (idxF_any (wa.alloc (.cells #[.int .i64 x] 3)) fa fc bs s.2 s.1.1 wa.heap.size x (hfa.below (bx _ _)) U1.out.fr hrb (Nat.le_trans hU.out.room hk2))
      have HRB := hid hrb
      clear hx hfa hrb
      by_cases hm : x ∈ s.2
      · have hp : place s.2 x = ((s.2.idxOf x : Nat) : Int) := by unfold place; rw [if_pos hm]
        rw [hp] at KI
        obtain ⟨j, hj⟩ : ∃ j, j = s.2.idxOf x := ⟨_, rfl⟩
        have hjl : j < s.2.length := by rw [hj]; exact List.idxOf_lt_length_of_mem hm
        rw [← hj] at KI
        have HJ := hid hj
        have HM := hid hm
        have j0 : decide ((0 : Int) ≤ (j : Int)) = true := by simp
        have j1 : (0 : Int) ≤ (j : Int) := by omega
        clear hp hj hm
        go_wp2_with fail
        refine (KI.out).mono ?_
        rintro rr w2 ⟨rfl, hb2⟩
        have U2 := hid (U1.out.keepB hb2)
        have hown : w2.ownsRow w.heap.size 4 1 (.slice va Hs.length vc) Hs.length (Hs.map Value.bool) := U2.out.hits
        have hw2 := U2.out.below.size
        clear hb2 KI U1
        go_wp2_with (at_builtin; refine wpList_append_own _ rfl _ _ 49 rfl w.heap.size 4 i4 (.bool false) 1 1 Try.underlying49 bi bz0 bz1 bz2 rfl (by decide) _ _ _ rfl (hown.alloc _) ⟨w2.heap.size, 0, none⟩ 1 1 [.bool true] rfl rfl ?c1 ?c2 ?c3 ?c4 ?c5 ?_)
        case c1 => exact cell_one_new _ _ _
        case c2 => intro u hu; simp at hu; subst hu; rfl
        case c3 => unfold maxLen; omega
        case c4 => omega
        case c5 => simp; omega
        intro v' w4 hown' hgrow hnil
        obtain ⟨m1, m2, m3, m4⟩ := U2.out.said _ hgrow
        have O4 : OwnBools w4 w.heap.size v' (Hs ++ [true]) := OwnR.grows hown'
        obtain ⟨va', vc', e4, _⟩ := O4.at_
        obtain rfl : v' = .slice va' (Hs.length + 1) vc' := by rw [e4]; simp
        obtain ⟨q, y, mk, f1, f2, f3, f4⟩ := m2.at_ hjl
        obtain ⟨a1, c1', e1, r1, _⟩ := m1.at_
        injection e1 with e1 _ _
        subst e1
        obtain ⟨gb, go, rfl, d2⟩ := r1 j q f1
        have d3 : w4.cell? ⟨gb, go + j, none⟩ = some (.pointer (some ⟨q, 0, none⟩)) := d2
        have d4 := f4.c1
        have d5 := f4.fz 1
        have jl : (j : Int) < (bs.length : Int) := by have := m2.len; omega
        have hq : ∀ p, p ≠ q → (w4.setCell ⟨q, 1, none⟩ (.bool true)).heap[p]? = w4.heap[p]? := fun p hp => Below.heap_setCell _ _ _ _ hp
        have hyx : y = x := by
          have := List.getElem?_eq_getElem (l := s.2) (by rw [← HJ.out]; exact hjl : s.2.idxOf x < s.2.length)
          rw [List.getElem_idxOf, ← HJ.out, f2] at this
          exact Option.some.inj this
        subst hyx
        have N : Hid (CkAt k refs w (w4.setCell ⟨q, 1, none⟩ (.bool true)) (.slice (some ⟨gb, go, none⟩) bs.length fc) (.slice va' (Hs.length + 1) vc') hand bs ((s.1.1.set j true, s.1.2), s.2) (Hs ++ [true])) := by
          have hF := m2.turn f1 (by rw [hU.out.mlen]; have := hU.out.room; omega) y true (f4.mark true) hq
          have e5 : s.2.set j y = s.2 := by
            apply List.ext_getElem?
            intro i
            by_cases e : j = i
            · subst e; rw [List.getElem?_set_self hjl, f2]
            · rw [List.getElem?_set_ne e]
          rw [e5] at hF
          have e := U2.out.next HX.out (w1 := w4.setCell ⟨q, 1, none⟩ (.bool true)) (fv' := .slice (some ⟨gb, go, none⟩) bs.length fc) (hv' := .slice va' (Hs.length + 1) vc') (hand' := hand) (bs' := bs) (s' := ((s.1.1.set j true, s.1.2), s.2))
            (by unfold Pl.Rule.step; rw [if_pos HM.out, ← HJ.out]; rfl) (m1.keep (fun g hg => hq g (fun e => not_box (by decide) m1 m2 g hg (e ▸ List.mem_of_getElem? f1)))) (by rw [decide_eq_true HM.out]; exact O4.keep (fun g hg => hq g (fun e => not_box (by decide) O4 m2 g hg (e ▸ List.mem_of_getElem? f1)))) hF hU.out.bge (by simpa using hU.out.mlen) hU.out.hd (by omega) hU.out.room (m3.setCell (p := ⟨q, 1, none⟩) (hU.out.bge q (List.mem_of_getElem? f1)) _)
          rwa [decide_eq_true HM.out] at e
        clear hown' hgrow hnil hown hw2 O4 e4 m1 m2 m3 m4 f1 f2 f3 f4 d2 r1 hq U2
        go_wp2_with fail
        go_roundw
        case rel => exact ⟨t + 1, hand, bs, _, Hs ++ [true], by omega, by go_num, rfl, by show _ = _; rw [List.length_append, ← hT.out]; rfl, N⟩
        case measure => simp [intOf]; omega
      · have hp : place s.2 x = -1 := by unfold place; rw [if_neg hm]
        rw [hp] at KI
        have HM := hid hm
        clear hp hm
        go_wp2_with fail
        refine (KI.out).mono ?_
        rintro rr w2 ⟨rfl, hb2⟩
        have U2 := hid (U1.out.keepB hb2)
        have hown : w2.ownsRow w.heap.size 4 1 (.slice va Hs.length vc) Hs.length (Hs.map Value.bool) := U2.out.hits
        have hw2 := U2.out.below.size
        have hrb2 : w2.heap[wa.heap.size]? = some (.cells #[.int .i64 x] 3 (0, 0)) := (hb2.block _ (by simp)).trans (heap_alloc_new wa _)
        clear hb2 KI U1
        go_wp2_with (at_builtin; refine wpList_append_own _ rfl _ _ 49 rfl w.heap.size 4 i4 (.bool false) 1 1 Try.underlying49 bi bz0 bz1 bz2 rfl (by decide) _ _ _ rfl (hown.alloc _) ⟨w2.heap.size, 0, none⟩ 1 1 [.bool false] rfl rfl ?c1 ?c2 ?c3 ?c4 ?c5 ?_)
        case c1 => exact cell_one_new _ _ _
        case c2 => intro u hu; simp at hu; subst hu; rfl
        case c3 => unfold maxLen; omega
        case c4 => omega
        case c5 => simp; omega
        intro v' w4 hown' hgrow hnil
        obtain ⟨m1, m2, m3, m4⟩ := U2.out.said _ hgrow
        have O4 : OwnBools w4 w.heap.size v' (Hs ++ [false]) := OwnR.grows hown'
        obtain ⟨va', vc', e4, _⟩ := O4.at_
        obtain rfl : v' = .slice va' (Hs.length + 1) vc' := by rw [e4]; simp
        have hgl : ∀ g, (Value.slice va Hs.length vc).ownBlock = some g → g < wa.heap.size := fun g hg => (hU.out.hits.lt g hg).2
        have hrb4 : w4.heap[wa.heap.size]? = some (.cells #[.int .i64 x] 3 (0, 0)) := by
          have hl := lt_of_heap hrb2
          exact (hgrow.block _ (by simp; omega) (fun e => by have := hgl _ e.symm; omega)).trans ((Below.heap_alloc w2 _ _ hl).trans hrb2)
        have M1 := hid m1
        have M2 := hid m2
        have M3 := hid m3
        have A4 := hid O4
        have RB := hid hrb4
        clear hown' hgrow hnil hown hw2 O4 e4 m4 hrb2 hgl hrb4
        have hbl : bs.length = s.2.length := m2.len
        by_cases hl : s.2.length < k
        · have j1 : decide ((bs.length : Int) < (k : Int)) = true := by simp; omega
          have j2 : (bs.length : Int) < (k : Int) := by omega
          have d6 : w4.cell? ⟨wa.heap.size, 0, none⟩ = some (.int .i64 x) := by rw [cell_of_row _ _ _ _ _ _ RB.out]; rfl
          have HBL := hid hbl
          have bl50 : bs.length ≤ 50 := by omega
          have hrow : ∀ o o', ((w4.alloc o).alloc o').ownsRow w.heap.size 149 1 (.slice fa bs.length fc) bs.length (bs.map ptrV) := fun o o' => World.ownsRow.alloc (World.ownsRow.alloc m1 o) o'
          have hw4 := m3.size
          have hnew : ∀ o : Obj, ∀ j u, [ptrV w4.heap.size][j]? = some u → ((w4.alloc o).alloc (.cells #[ptrV w4.heap.size] 149)).cell? ((⟨w4.heap.size + 1, 0, none⟩ : Addr).add j) = some u := fun o => by
            have e : (w4.alloc o).heap.size = w4.heap.size + 1 := by simp
            have := cell_one_new (w4.alloc o) (ptrV w4.heap.size) 149
            rwa [e] at this
          clear m1 m2 m3 hbl
          go_wp2_with (at_builtin; refine wpList_append_own _ rfl _ _ 147 rfl w.heap.size 149 ip (.pointer none) 1 8 Try.underlying147 pi pz0 pz1 pz2 rfl (by decide) _ _ _ rfl (hrow _ _) ⟨w4.heap.size + 1, 0, none⟩ 1 1 [ptrV w4.heap.size] rfl rfl (hnew _) ?c2 ?c3 ?c4 ?c5 ?_)
          case c2 => intro u hu; simp at hu; subst hu; rfl
          case c3 => unfold maxLen; omega
          case c4 => omega
          case c5 => simp; omega
          intro v' w5 hown' hgrow hnil
          have O5 : OwnR ptrV 149 w5 w.heap.size v' (bs ++ [w4.heap.size]) := OwnR.grows hown'
          obtain ⟨fa', fc', e5, _⟩ := O5.at_
          obtain rfl : v' = .slice fa' (bs.length + 1) fc' := by rw [e5]; simp
          have N : Hid (CkAt k refs w w5 (.slice fa' (bs.length + 1) fc') (.slice va' (Hs.length + 1) vc') hand (bs ++ [w4.heap.size]) ((s.1.1.set s.2.length true, s.1.2), s.2 ++ [x]) (Hs ++ [false])) := by
            have hbk : ∀ q, q < w4.heap.size → (Value.slice fa bs.length fc).ownBlock ≠ some q → w5.heap[q]? = w4.heap[q]? := fun q hq hne => (hgrow.block q (by simp; omega) (fun e => hne e.symm)).trans ((Below.heap_alloc _ _ _ (by simp; omega)).trans (Below.heap_alloc _ _ _ hq))
            have hrl : ∀ g, (Value.slice fa bs.length fc).ownBlock = some g → g < w4.heap.size := fun g hg => (M1.out.lt g hg).2
            have hbx : FBox w5 w4.heap.size x true := by
              refine (hgrow.block _ (by simp; omega) (fun e => by have := hrl _ e.symm; omega)).trans ((Below.heap_alloc _ _ _ (by simp)).trans ?_)
              exact heap_alloc_new w4 _
            have hF := M2.out.more (w' := w5) (fun q hq hm => hbk q hq (fun e => not_box (by decide) M1.out M2.out q e hm)) (b := w4.heap.size) (Nat.le_refl _) hbx (by rw [hU.out.mlen]; omega)
            have e := U2.out.next HX.out (w1 := w5) (fv' := .slice fa' (bs.length + 1) fc') (hv' := .slice va' (Hs.length + 1) vc') (hand' := hand) (bs' := bs ++ [w4.heap.size]) (s' := ((s.1.1.set s.2.length true, s.1.2), s.2 ++ [x]))
              (by unfold Pl.Rule.step; rw [if_neg HM.out, if_pos hl]; rfl) O5 (by rw [decide_eq_false HM.out]; exact A4.out.keep (fun g hg => hbk g (A4.out.lt g hg).2 (fun e => not_row (by decide) M1.out A4.out g e hg))) hF (fun q hq => by
                rcases List.mem_append.1 hq with hq | hq
                · exact hU.out.bge q hq
                · simp at hq; subst hq; exact hw4) (by simpa using hU.out.mlen) hU.out.hd (by omega) (by simp; omega) (((M3.out.alloc hw4 _).alloc (by simp; omega) _).grown hgrow (by simp; omega) (fun g hg => (M1.out.lt g hg).1))
            rwa [decide_eq_false HM.out] at e
          clear hown' hgrow hnil O5 e5 hrow hnew hw4 M1 M2 M3 A4 RB d6
          go_wp2_with fail
          go_roundw
          case rel => exact ⟨t + 1, hand, _, _, Hs ++ [false], by omega, by go_num, rfl, by show _ = _; rw [List.length_append, ← hT.out]; rfl, N⟩
          case measure => simp [intOf]; omega
        · have hPk : s.2.length = k := by have := hU.out.room; omega
          have j1 : decide ((bs.length : Int) < (k : Int)) = false := by simp; omega
          have j2 : ¬ (bs.length : Int) < (k : Int) := by omega
          have HBL : Hid (bs.length = k) := hbl.trans hPk
          have HPk := hid hPk
          have hcnt : s.1.1.countP id ≤ 50 := by rw [← hU.out.mlen]; exact List.countP_le_length
          clear m1 m2 m3 hbl hl hPk
          go_wp2_with fail
          go_loopw [8] (fun hnv wr => ∃ (h' : Nat) (m' : List Bool), hnv = .int .i64 (h' : Int) ∧ h' + m'.countP id ≤ hand + 50 ∧ hand ≤ h' ∧ Hid (Frames wr bs s.2 m') ∧ Hid (m'.length = 50) ∧ Hid (Pl.swept k s.1.1 s.1.2 = Pl.swept k m' (h' % k)) ∧ Hid (Goes (fun b => b ∈ bs) w4 wr (fun b => b ∈ bs))) (fun hnv _ => hand + 51 - (intOf hnv).toNat)
          case atStart => exact ⟨hand, s.1.1, rfl, by omega, Nat.le_refl _, M2.out, hU.out.mlen, by show _ = _; rw [hU.out.hd], Goes.refl _ _⟩
          case round =>
            obtain ⟨h', m', rfl, hc1, hc2, hF, hml, hS, hG⟩ := hrel
            obtain ⟨ix, hix⟩ : ∃ ix, ix = h' % k := ⟨_, rfl⟩
            have hixk : ix < k := by rw [hix]; exact Nat.mod_lt _ (by omega)
            have ei : (h' : Int) % (k : Int) = (ix : Int) := by rw [hix]; simp
            have HIX := hid hix
            clear hix
            obtain ⟨q, y, mk, f1, f2, f3, f4⟩ := hF.out.at_ (j := ix) (by rw [HPk.out]; exact hixk)
            have R5 : OwnR ptrV 149 wr w.heap.size (.slice fa bs.length fc) bs := M1.out.keep (fun g hg => hG.out.block g (M1.out.lt g hg).2 (fun e => not_box (by decide) M1.out M2.out g hg e))
            obtain ⟨a1, c1', e1, r1, _⟩ := R5.at_
            injection e1 with e1 e2 e3
            subst e1; subst e3
            clear e2
            obtain ⟨gb, go, rfl, d2⟩ := r1 ix q f1
            have d3 : wr.cell? ⟨gb, go + ix, none⟩ = some (.pointer (some ⟨q, 0, none⟩)) := d2
            have d4 := f4.c1
            have d5 := f4.fz 1
            have i0 : (0 : Int) ≤ (ix : Int) := by omega
            have i1 : (ix : Int) < (bs.length : Int) := by have := HBL.out; omega
            have hb1 : (h' : Int) ≤ 102050 := by omega
            have hb0 : (0 : Int) ≤ (h' : Int) := by omega
            have hqm := List.mem_of_getElem? f1
            have hmx : (h' + 1) % k = (ix + 1) % k := by rw [HIX.out]; simp
            have HMX := hid hmx
            clear d2 r1 hmx
            cases mk with
            | true =>
              have hq : ∀ p, p ≠ q → (wr.setCell ⟨q, 1, none⟩ (.bool false)).heap[p]? = wr.heap[p]? := fun p hp => Below.heap_setCell _ _ _ _ hp
              have F2 : Hid (Frames (wr.setCell ⟨q, 1, none⟩ (.bool false)) bs s.2 (m'.set ix false)) := by
                have hF2 := hF.out.turn f1 (by rw [hml.out]; omega) y false (f4.mark false) hq
                have e5 : s.2.set ix y = s.2 := by
                  apply List.ext_getElem?
                  intro i
                  by_cases e : ix = i
                  · subst e; rw [List.getElem?_set_self (by rw [HPk.out]; exact hixk), f2]
                  · rw [List.getElem?_set_ne e]
                rwa [e5] at hF2
              have S2 : Hid (Pl.swept k s.1.1 s.1.2 = Pl.swept k (m'.set ix false) ((h' + 1) % k)) := by show _ = _; rw [hS.out, ← HIX.out, HMX.out]; exact Pl.swept_on f3
              have C2 : h' + 1 + (m'.set ix false).countP id ≤ hand + 50 := by have := Pl.count_set f3; omega
              have G2 := hid (hG.out.setCell (q := ⟨q, 1, none⟩) (.inl hqm) (.bool false))
              have L2 : Hid ((m'.set ix false).length = 50) := by show _ = _; rw [List.length_set]; exact hml.out
              clear f1 f2 f3 f4 hq R5
              go_wp2_with fail
              go_roundw
              case rel => exact ⟨h' + 1, m'.set ix false, by go_num, C2, by omega, F2, L2, S2, G2⟩
              case measure => simp [intOf]; omega
            | false =>
              have hwb : wr.heap[wa.heap.size]? = some (.cells #[.int .i64 x] 3 (0, 0)) := by
                have hl := lt_of_heap RB.out
                refine (hG.out.block _ hl (fun e => ?_)).trans RB.out
                have := hU.out.fr.lt _ e
                omega
              have d6 : wr.cell? ⟨wa.heap.size, 0, none⟩ = some (.int .i64 x) := by rw [cell_of_row _ _ _ _ _ _ hwb]; rfl
              have d7 := f4.c0
              have d8 := f4.fz 0
              have et : (h' : Int).tmod (k : Int) = (ix : Int) := by rw [Int.tmod_eq_emod_of_nonneg hb0]; exact ei
              have hq : ∀ p, p ≠ q → ((wr.setCell ⟨q, 0, none⟩ (.int .i64 x)).setCell ⟨q, 1, none⟩ (.bool true)).drew.heap[p]? = wr.heap[p]? := fun p hp => (Below.heap_setCell _ _ _ _ hp).trans (Below.heap_setCell _ _ _ _ hp)
              have N : Hid (CkAt k refs w ((wr.setCell ⟨q, 0, none⟩ (.int .i64 x)).setCell ⟨q, 1, none⟩ (.bool true)).drew (.slice (some ⟨gb, go, none⟩) bs.length fc) (.slice va' (Hs.length + 1) vc') (h' + 1) bs ((m'.set ix true, (ix + 1) % k), s.2.set ix x) (Hs ++ [false])) := by
                have hbx : FBox ((wr.setCell ⟨q, 0, none⟩ (.int .i64 x)).setCell ⟨q, 1, none⟩ (.bool true)).drew q x true := ((f4.page x).mark true).keep rfl
                have hF2 := hF.out.turn f1 (by rw [hml.out]; omega) x true hbx hq
                have hsw : Pl.swept k s.1.1 s.1.2 = (m', ix) := by rw [hS.out, ← HIX.out]; exact Pl.swept_end (by rw [f3]; simp)
                have A5 : OwnBools wr w.heap.size (.slice va' (Hs.length + 1) vc') (Hs ++ [false]) := A4.out.keep (fun g hg => hG.out.block g (A4.out.lt g hg).2 (fun e => not_box (by decide) A4.out M2.out g hg e))
                have B5 : Below w.heap.size w wr := M3.out.trans (hG.out.below (B := w.heap.size) M3.out.size (fun b hb => hU.out.bge b hb))
                have e := U2.out.next HX.out (w1 := ((wr.setCell ⟨q, 0, none⟩ (.int .i64 x)).setCell ⟨q, 1, none⟩ (.bool true)).drew) (fv' := .slice (some ⟨gb, go, none⟩) bs.length fc) (hv' := .slice va' (Hs.length + 1) vc') (hand' := h' + 1) (bs' := bs) (s' := ((m'.set ix true, (ix + 1) % k), s.2.set ix x))
                  (by unfold Pl.Rule.step; rw [if_neg HM.out, if_neg (by rw [HPk.out]; omega)]; show _ = ((((Pl.swept s.2.length s.1.1 s.1.2).1.set (Pl.swept s.2.length s.1.1 s.1.2).2 true), ((Pl.swept s.2.length s.1.1 s.1.2).2 + 1) % s.2.length), s.2.set (Pl.swept s.2.length s.1.1 s.1.2).2 x); rw [HPk.out, hsw])
                  (R5.keep (fun g hg => hq g (fun e => not_box (by decide) R5 hF.out g hg (e ▸ hqm)))) (by rw [decide_eq_false HM.out]; exact A5.keep (fun g hg => hq g (fun e => not_box (by decide) A5 hF.out g hg (e ▸ hqm)))) hF2 hU.out.bge (by simpa using hml.out) HMX.out.symm (by omega) (by simp; exact hU.out.room)
                  (((B5.setCell (p := ⟨q, 0, none⟩) (hU.out.bge q hqm) _).setCell (p := ⟨q, 1, none⟩) (hU.out.bge q hqm) _).drew)
                rwa [decide_eq_false HM.out] at e
              clear f1 f2 f3 f4 hq R5 hwb
              go_wp2_with fail
              go_region
              go_wp2_with fail
              go_roundw
              case rel => exact ⟨t + 1, h' + 1, bs, _, Hs ++ [false], by omega, by go_num, by go_num, by show _ = _; rw [List.length_append, ← hT.out]; rfl, N⟩
              case measure => simp [intOf]; omega
    · obtain rfl : t = refs.length := by omega
      have j3 : decide ((refs.length : Int) < (refs.length : Int)) = false := by simp
      obtain ⟨va, vc, rfl, hh, _⟩ := hU.out.hits.at_
      obtain ⟨fa, fc, rfl, hfa, _⟩ := hU.out.row.at_
      have HH := hid hh
      have HF := hid hfa
      have FR := hid hU.out.fr
      have HB := hid hU.out.below
      have hrun := hU.out.run
      rw [← hT.out, List.drop_length] at hrun
      have HE1 : Hid (O.1 = Hs) := by show _ = _; rw [HO.out, hrun]; simp [Pl.Rule.run, Pl.go]
      have HE2 : Hid (O.2.2 = s.2) := by show _ = _; rw [HO.out, hrun]; simp [Pl.Rule.run, Pl.go]
      have bl50 : bs.length ≤ 50 := by rw [hU.out.fr.len]; exact Nat.le_trans hU.out.room hk2
      have HBL : Hid (bs.length = s.2.length) := hU.out.fr.len
      clear hh hfa hrun hU
      go_wp2_with fail
      go_loopw [80, 12] (fun i pv wr => ∃ j : Nat, j ≤ bs.length ∧ i = .int .i64 (j : Int) ∧ Hid (OwnInts wr wa.heap.size pv (s.2.take j)) ∧ Hid (Below wa.heap.size wa wr)) (fun i _ _ => bs.length - (intOf i).toNat)
      case atStart => exact ⟨0, Nat.zero_le _, rfl, by rw [List.take_zero]; exact OwnR.nil _ _, Below.refl _ _⟩
      case round =>
        obtain ⟨j, hj, rfl, hK, hB⟩ := hrel
        obtain ⟨Kl, hKl⟩ : ∃ Kl, Kl = s.2.take j := ⟨_, rfl⟩
        rw [← hKl] at hK
        have HKl := hid hKl
        have hKll : Kl.length ≤ 50 := by rw [hKl, List.length_take]; have := HBL.out; omega
        clear hKl
        obtain ⟨pa, pc, rfl, hI, _⟩ := hK.out.at_
        have HI := hid hI
        clear hI
        by_cases hlj : j < bs.length
        · obtain ⟨q, y, mk, f1, f2, f3, f4⟩ := (FR.out.below hB.out).at_ (j := j) (by rw [← HBL.out]; exact hlj)
          obtain ⟨gb, go, rfl, d2⟩ := (HF.out.below hB.out) j q f1
          have d3 : wr.cell? ⟨gb, go + j, none⟩ = some (.pointer (some ⟨q, 0, none⟩)) := d2
          have d4 := f4.c0
          have i0 : (0 : Int) ≤ (j : Int) := by omega
          have i1 : (j : Int) < (bs.length : Int) := by omega
          have hown : wr.ownsRow wa.heap.size 3 1 (.slice pa Kl.length pc) Kl.length (Kl.map (Value.int .i64)) := hK.out
          have hsz := hB.out.size
          have NX : Hid (s.2.take (j + 1) = Kl ++ [y]) := by
            show _ = _
            obtain ⟨g1, g2⟩ := List.getElem?_eq_some_iff.1 f2
            rw [List.take_succ_eq_append_getElem g1, g2, HKl.out]
          clear f1 f2 f3 f4 d2
          go_wp2_with (at_builtin; refine wpList_append_own _ rfl _ _ 55 rfl wa.heap.size 3 i3 (.int .i64 0) 1 8 Try.underlying55 ii iz0 iz1 iz2 rfl (by decide) _ _ _ rfl (hown.alloc _) ⟨wr.heap.size, 0, none⟩ 1 1 [.int .i64 y] rfl rfl ?c1 ?c2 ?c3 ?c4 ?c5 ?_)
          case c1 => exact cell_one_new _ _ _
          case c2 => exact ints_oneCell .i64 [y]
          case c3 => unfold maxLen; omega
          case c4 => omega
          case c5 => simp; omega
          intro v' w9 hown' hgrow hnil
          have O9 : OwnInts w9 wa.heap.size v' (Kl ++ [y]) := OwnR.grows hown'
          obtain ⟨va', vc', e9, _⟩ := O9.at_
          obtain rfl : v' = .slice va' (Kl.length + 1) vc' := by rw [e9]; simp
          have N9 : Hid (OwnInts w9 wa.heap.size (.slice va' (Kl.length + 1) vc') (s.2.take (j + 1))) := by rw [NX.out]; exact O9
          have B9 : Hid (Below wa.heap.size wa w9) := (hB.out.alloc hsz _).grown hgrow (by simp; omega) (fun g hg => (World.ownsRow.lt hown g hg).1)
          clear hown' hgrow hnil hown O9 e9
          go_wp2_with fail
          go_roundw
          case rel => exact ⟨j + 1, by omega, by go_num, N9, B9⟩
          case measure => simp [intOf]; omega
        · obtain rfl : j = bs.length := by omega
          have j4 : decide ((bs.length : Int) < (bs.length : Int)) = false := by simp
          have HK2 : Hid (Kl = s.2) := by show _ = _; rw [HKl.out, HBL.out, List.take_length]
          go_wp2_with fail
          go_ret2
          refine ⟨va, vc, pa, pc, ?_, ?_, ?_, ?_⟩
          · rw [HE1.out, HE2.out, ← HK2.out]; rfl
          · rw [HE1.out]; exact HH.out.below hB.out
          · rw [HE2.out, ← HK2.out]; exact HI.out
          · exact below_tr HB.out hB.out

end Go.Proofs.Ytlcpioeobnjcdaa.PPool
