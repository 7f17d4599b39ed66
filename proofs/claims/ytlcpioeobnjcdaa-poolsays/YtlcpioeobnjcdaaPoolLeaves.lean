/- quirref.leaves, walked: which page goes. Conditions: the map holds the pages that are there, with their times; lengths that an int holds. -/
import Derived.Test.YtlcpioeobnjcdaaPoolRefNum
import Derived.Test.YtlcpioeobnjcdaaPoolFar
namespace Go.Proofs.Ytlcpioeobnjcdaa.PPool
open Go Go.RowKit Go.Maps
set_option maxRecDepth 100000

theorem law3 : Keyed Try.prog 3 := int_keyed Try.underlying3

theorem place_cons {r p : Int} {rest : List Int} (h : p ≠ r) : place (r :: rest) p = if p ∈ rest then (rest.idxOf p : Int) + 1 else -1 := by
  unfold place
  by_cases e : p ∈ rest
  · rw [if_pos (by simp [e]), if_pos e, List.idxOf_cons]
    have : (r == p) = false := by simpa using Ne.symm h
    simp [this]
  · rw [if_neg (by simp [e, h]), if_neg e]
theorem ranges_of {k : TypeId} {R : Value → Option (DataW Unit × List MemPlace)} {w w' : World} {b r n : Nat} {D : DataW Unit} {left : Lit → Bool} {cnt : Nat} (h : w.ranges Try.prog k R b r n D left cnt) (h1 : w'.heap[b]? = w.heap[b]?) (h2 : w'.heap[r]? = w.heap[r]?) : w'.ranges Try.prog k R b r n D left cnt := by
  obtain ⟨es, clock, since, seen, c0, g1, g2, g3, g4, g5, g6⟩ := h
  exact ⟨es, clock, since, seen, c0, h1.trans g1, g2, g3, g4, h2.trans g5, g6⟩
theorem ranges_lt {k : TypeId} {R : Value → Option (DataW Unit × List MemPlace)} {w : World} {b r n : Nat} {D : DataW Unit} {left : Lit → Bool} {cnt : Nat} (h : w.ranges Try.prog k R b r n D left cnt) : b < w.heap.size ∧ r < w.heap.size := by
  obtain ⟨es, clock, since, seen, c0, g1, _, _, _, g5, _⟩ := h
  exact ⟨lt_of_heap g1, lt_of_heap g5⟩

/-- Two numbers in a box. -/
def Box2 (w : World) (b : Nat) (x y : Int) : Prop := ∃ T, w.heap[b]? = some (.cells #[.int .i64 x, .int .i64 y] T (0, 0))
theorem Box2.c0 {w : World} {b : Nat} {x y : Int} (h : Box2 w b x y) : w.cell? ⟨b, 0, none⟩ = some (.int .i64 x) := by obtain ⟨T, h⟩ := h; rw [cell_of_row w b _ _ _ _ h]; rfl
theorem Box2.c1 {w : World} {b : Nat} {x y : Int} (h : Box2 w b x y) : w.cell? ⟨b, 1, none⟩ = some (.int .i64 y) := by obtain ⟨T, h⟩ := h; rw [cell_of_row w b _ _ _ _ h]; rfl
theorem Box2.fz {w : World} {b : Nat} {x y : Int} (h : Box2 w b x y) (j : Nat) : w.frozen? ⟨b, j, none⟩ = false := by obtain ⟨T, h⟩ := h; simp [World.frozen?, h]
theorem Box2.keep {w w' : World} {b : Nat} {x y : Int} (h : Box2 w b x y) (e : w'.heap[b]? = w.heap[b]?) : Box2 w' b x y := by obtain ⟨T, h⟩ := h; exact ⟨T, e.trans h⟩
theorem Box2.set0 {w : World} {b : Nat} {x y : Int} (h : Box2 w b x y) (z : Int) : Box2 (w.setCell ⟨b, 0, none⟩ (.int .i64 z)) b z y := by
  obtain ⟨T, h⟩ := h
  exact ⟨T, by rw [setCell_eq_setRow w b 0 _ _ _ _ h]; exact setRow_heap w b _ _ T _ h⟩
theorem Box2.set1 {w : World} {b : Nat} {x y : Int} (h : Box2 w b x y) (z : Int) : Box2 (w.setCell ⟨b, 1, none⟩ (.int .i64 z)) b x z := by
  obtain ⟨T, h⟩ := h
  exact ⟨T, by rw [setCell_eq_setRow w b 1 _ _ _ _ h]; exact setRow_heap w b _ _ T _ h⟩
theorem Box2.lt {w : World} {b : Nat} {x y : Int} (h : Box2 w b x y) : b < w.heap.size := by obtain ⟨T, h⟩ := h; exact lt_of_heap h
theorem Box2.new (w : World) (x y : Int) (T : TypeId) : Box2 (w.alloc (.cells #[.int .i64 x, .int .i64 y] T)) w.heap.size x y := ⟨T, heap_alloc_new w _⟩

/-- What is left to know where a page is looked at: its box, the best one's box, and all else as it was. -/
structure Look (w1 w4 : World) (b0 kb : Nat) (K t k0 k1 : Int) : Prop where
  key : Box2 w4 kb K t
  best : Box2 w4 b0 k0 k1
  goes : Goes (fun b => b = b0) w1 w4 (fun b => b = b0)
  ne : kb ≠ b0
theorem Look.new {w1 : World} {b0 : Nat} {t k0 k1 : Int} (hb : Box2 w1 b0 k0 k1) (z : Int) (T : TypeId) : Look w1 (w1.alloc (.cells #[.int .i64 z, .int .i64 t] T)) b0 w1.heap.size z t k0 k1 :=
  ⟨Box2.new w1 z t T, hb.keep (Below.heap_alloc w1 _ _ hb.lt), (Goes.refl _ w1).alloc _, by have := hb.lt; omega⟩
theorem Look.set {w1 w4 : World} {b0 : Nat} {K t k0 k1 : Int} (h : Look w1 w4 b0 w1.heap.size K t k0 k1) (z : Int) : Look w1 (w4.setCell ⟨w1.heap.size, 0, none⟩ (.int .i64 z)) b0 w1.heap.size z t k0 k1 :=
  ⟨h.key.set0 z, h.best.keep (Below.heap_setCell _ _ _ _ (fun e => h.ne (by have e : b0 = w1.heap.size := e; exact e.symm))), h.goes.setCell (q := ⟨w1.heap.size, 0, none⟩) (.inr (Nat.le_refl _)) _, h.ne⟩
theorem Look.below {w1 w4 w5 : World} {b0 kb : Nat} {K t k0 k1 : Int} (h : Look w1 w4 b0 kb K t k0 k1) (hb : Below w4.heap.size w4 w5) : Look w1 w5 b0 kb K t k0 k1 :=
  ⟨h.key.keep (hb.block _ h.key.lt), h.best.keep (hb.block _ h.best.lt), goes_below h.goes hb, h.ne⟩
/-- The best one is laid over. -/
theorem Look.over {w1 w4 : World} {b0 kb : Nat} {K t k0 k1 : Int} (h : Look w1 w4 b0 kb K t k0 k1) : Box2 ((w4.setCell ⟨b0, 0, none⟩ (.int .i64 K)).setCell ⟨b0, 1, none⟩ (.int .i64 t)).drew b0 K t ∧ Goes (fun b => b = b0) w1 ((w4.setCell ⟨b0, 0, none⟩ (.int .i64 K)).setCell ⟨b0, 1, none⟩ (.int .i64 t)).drew (fun b => b = b0) :=
  ⟨((h.best.set0 K).set1 t).keep rfl, ((h.goes.setCell (q := ⟨b0, 0, none⟩) (.inl rfl) _).setCell (q := ⟨b0, 1, none⟩) (.inl rfl) _).drew⟩

set_option maxHeartbeats 2000000 in
theorem leaves_any (W : World) (rule : Int) (B n : Nat) (D : DataW Unit) (L : List (Int × Nat)) (a : Option Addr) (c : Nat) (refs : List Int) (i : Nat) (r : Int) (hown : W.ownsMap Try.prog 3 (plainElem Try.prog 3) B n D) (hD : Reads D L) (hn : (L.map Prod.fst).Nodup) (ht : L.Pairwise (fun p q => p.2 < q.2)) (hp : 0 < L.length)
    (hr : IntsAt W a refs) (hc : refs.length ≤ c) (hn2 : refs.length ≤ 2000) (hi : refs[i]? = some r) (hx : r ∉ L.map Prod.fst) :
    Calls Try.prog 119 #[.int .i64 rule, .map (some B), .slice a refs.length c, .int .i64 (i : Int)] W fun e W' => ∃ o, e = .returned (.int .i64 o) ∧ (∃ hk : lv rule (L.map Prod.fst) (refs.drop (i + 1)) < L.length, o = (L[lv rule (L.map Prod.fst) (refs.drop (i + 1))]).1) ∧ Below W.heap.size W W' := by
  obtain ⟨hil, hir⟩ := List.getElem?_eq_some_iff.1 hi
  have hdrop : refs.drop i = r :: refs.drop (i + 1) := by rw [List.drop_eq_getElem_cons hil, hir]
  obtain ⟨rest, hrest⟩ : ∃ rest, rest = refs.drop (i + 1) := ⟨_, rfl⟩
  have hrl : (rest.length : Int) = (refs.length : Int) - (i : Int) - 1 := by rw [hrest, List.length_drop]; omega
  rw [← hrest] at hdrop ⊢
  obtain ⟨b, o, rfl, _⟩ := hr.lt (by omega)
  have hsl : ∃ a2 c2, (∀ W', (Instr.slice 55 (.slice (some ⟨b, o, none⟩) refs.length c) (some (.int .i64 (i : Int))) none none).run Try.prog W' = .ok (.slice a2 (r :: rest).length c2) W') ∧ IntsAt W a2 (r :: rest) := by
    refine ⟨_, _, fun W' => by have := slice_behind W' b o refs.length c i (by omega); rw [← hdrop, List.length_drop]; exact this, ?_⟩
    rw [if_neg (by omega), ← hdrop]
    exact hr.drop i
  obtain ⟨a2, c2, hv, hR⟩ := hsl
  have KI := hid (fun W' (hb : Below W.heap.size W W') x => index_any W' a2 c2 (r :: rest) x (hR.below hb) (by simp only [List.length_cons]; omega))
  have hP : ∀ x, x ∈ L.map Prod.fst → place (r :: rest) x = if x ∈ rest then (rest.idxOf x : Int) + 1 else -1 := fun x hx' => place_cons (fun e => hx (e ▸ hx'))
  generalize hrr : (r :: rest).length = rl at *
  have HD := hid hD
  have HN := hid hn
  have HT := hid ht
  have HP := hid hP
  have HRL := hid hrl
  have n0 : (i : Int) < (refs.length : Int) := by omega
  have n1 : (refs.length : Int) ≤ 2000 := by omega
  have n2 : (0 : Int) ≤ (i : Int) := by omega
  have hownA : ∀ o, (W.alloc o).ownsMap Try.prog 3 (plainElem Try.prog 3) B n D := fun o => hown.alloc o
  have hBlt : B < W.heap.size := by obtain ⟨es, clock, h1, _⟩ := hown; exact lt_of_heap h1
  clear hD hn ht hr hx hi hP hrest hdrop hir hR hrl hrr hown
  go_enter Try.func119, Try.ntmps119
  go_wp2_with (at_range; refine wpList_range_own _ rfl _ 153 rfl 3 3 law3 Try.underlying153 (plainElem Try.prog 3) B n D rfl (hownA _) ?_; intro w0 hrg0 hg0 hs0)
  have hsz : ∀ o, (W.alloc o).heap.size = W.heap.size + 1 := fun o => by simp
  rw [hsz] at hrg0
  have X0 : Hid (Box2 w0 W.heap.size 0 0) := (Box2.new W 0 0 _).keep (hg0.block _ (by rw [hsz]; omega) (by simp))
  have B0 : Hid (Below W.heap.size W w0) := (bx W _).grown hg0 (by rw [hsz]; omega) (fun k hk => by cases hk)
  have R0 := hid hrg0
  rw [hsz]
  clear hrg0 hg0 hs0 hsz hownA
  go_frame
  go_loopw [9, 10] (fun ov fv wr => ∃ (left : Lit → Bool) (cnt : Nat) (oo : Int) (ff : Bool) (k0 k1 : Int), ov = .int .i64 oo ∧ fv = .bool ff ∧ Hid (wr.ranges Try.prog 3 (plainElem Try.prog 3) B (W.heap.size + 1) n D left cnt) ∧ Hid (Lead rule rest L left ff oo k0 k1) ∧ Hid (Box2 wr W.heap.size k0 k1) ∧ Hid (Below W.heap.size W wr)) (fun _ _ wr => wr.rangeLeft B (W.heap.size + 1))
  case atStart => exact ⟨_, _, -1, true, 0, 0, rfl, rfl, R0.out, Lead.start HD.out _ _ _, X0.out, B0.out⟩
  case round =>
    obtain ⟨left, cnt, oo, ff, k0, k1, rfl, rfl, hrg, hLd, hBx, hBl⟩ := hrel
    go_wp2_with (at_next; refine wpList_next_ranges_ii _ rfl _ rfl 3 3 .i64 .i64 law3 Try.underlying3 Try.underlying3 B (W.heap.size + 1) n _ _ _ rfl hrg.out ?_ ?_)
    · intro _ hl0
      have HE := hid (hLd.out.end_ hl0 HT.out hp)
      clear hl0
      go_wp2_with fail
      go_ret
      exact ⟨oo, rfl, HE.out, hBl.out⟩
    · intro x cc w1 cnt1 hwx hwc hlx hat hrg1 hlt hg1 hs1 hen
      obtain ⟨t, hm, rfl⟩ := HD.out.time hat
      have hB1 : Hid (Box2 w1 W.heap.size k0 k1) := hBx.out.keep (hg1.block _ hBx.out.lt (by simp))
      have hBl1 : Hid (Below W.heap.size W w1) := hBl.out.grown hg1 (by have := hBl.out.size; omega) (fun k hk => by cases hk; omega)
      have hmp := HP.out x (List.mem_map.2 ⟨(x, t), hm, rfl⟩)
      have R1 := hid hrg1
      have C1 : Hid (cnt1 < cnt) := hlt
      have HM := hid hm
      have hlt1 := ranges_lt hrg1
      have hbn : B ≠ W.heap.size ∧ W.heap.size + 1 ≠ W.heap.size := ⟨by omega, by omega⟩
      have fin : Hid (∀ w5, Goes (fun b => b = W.heap.size) w1 w5 (fun b => b = W.heap.size) → w5.ranges Try.prog 3 (plainElem Try.prog 3) B (W.heap.size + 1) n D (fun z => left z && !z.sameKey (.int .i64 x)) cnt1 ∧ Below W.heap.size W w5) := fun w5 g5 =>
        ⟨ranges_of hrg1 (g5.block B hlt1.1 hbn.1) (g5.block _ hlt1.2 hbn.2), hBl1.out.trans (g5.below (B := W.heap.size) (by have := hBl1.out.size; omega) (fun k hk => by omega))⟩
      have LK := hid (Look.new (t := (t : Int)) hB1.out 0 162)
      have Q0 : Hid (key0 rule rest x = key0 rule rest x) := rfl
      have hw1 : W.heap.size ≠ w1.heap.size := by have := hB1.out.lt; omega
      clear hwx hwc hlx hat hrg1 hg1 hs1 hm hlt hlt1 hbn
      by_cases hr2 : rule = 2
      · subst hr2
        have D1 := hid (Look.new (t := (t : Int)) hB1.out ((i : Int) - (refs.length : Int)) 162)
        have HI := hid (KI.out _ (fin.out _ D1.out.goes).2 x)
        rw [hmp] at HI
        have e0 := LK.out.key.c0
        have e1 := LK.out.key.fz 0
        clear hmp
        by_cases hin : x ∈ rest
        · rw [if_pos hin] at HI
          obtain ⟨j, hj⟩ : ∃ j : Nat, j = rest.idxOf x + 1 := ⟨_, rfl⟩
          have ej : (rest.idxOf x : Int) + 1 = (j : Int) := by omega
          have jb : (j : Int) ≤ 2000 := by have := List.idxOf_le_length (a := x) (l := rest); have := HRL.out; omega
          have HK : Hid (key0 2 rest x = -(j : Int)) := by show _ = _; unfold key0; rw [if_pos rfl, ej]
          rw [ej] at HI
          clear hj ej hin
          have q0 : decide ((0 : Int) ≤ (j : Int)) = true := by simp
          go_wp2_with fail
          refine (HI.out).mono ?_
          rintro rr w3 ⟨rfl, hb3⟩
          have D3 := hid (D1.out.below hb3)
          have f0 := D3.out.key.c0
          have f1 := D3.out.key.fz 0
          have LK := hid (D3.out.set (-(j : Int)))
          clear hb3 HI D1 D3 e0 e1
          have d1 := LK.out.key.c0
          have d2 := LK.out.key.c1
          have d3 := LK.out.best.c0
          have d4 := LK.out.best.c1
          have d5 := LK.out.best.fz 0
          have d6 := LK.out.best.fz 1
          cases ff with
          | true =>
            obtain ⟨e1, e2⟩ := LK.out.over
            have N1 := hid (fin.out _ e2)
            have N2 := hid e1
            have N3 : Hid (Lead 2 rest L (fun z => left z && !z.sameKey (.int .i64 x)) false x (-(j : Int)) (t : Int)) := by have := hLd.out.turn HN.out HM.out (.inl rfl); rwa [HK.out] at this
            clear e1 e2
            go_wp2_with fail
            go_region
            go_wp2_with fail
            go_roundw
            case rel => exact ⟨_, cnt1, x, false, -(j : Int), (t : Int), rfl, rfl, N1.out.1, N3, N2, N1.out.2⟩
            case measure => rw [N1.out.1.left_eq, hrg.out.left_eq]; exact C1.out
          | false =>
            by_cases g1 : -(j : Int) < k0
            · have j1 : decide (-(j : Int) < k0) = true := by simpa using g1
              obtain ⟨e1, e2⟩ := LK.out.over
              have N1 := hid (fin.out _ e2)
              have N2 := hid e1
              have N3 : Hid (Lead 2 rest L (fun z => left z && !z.sameKey (.int .i64 x)) false x (-(j : Int)) (t : Int)) := by have := hLd.out.turn HN.out HM.out (.inr (.inl (by rw [HK.out]; exact g1))); rwa [HK.out] at this
              clear e1 e2
              go_wp2_with fail
              go_region
              go_wp2_with fail
              go_roundw
              case rel => exact ⟨_, cnt1, x, false, -(j : Int), (t : Int), rfl, rfl, N1.out.1, N3, N2, N1.out.2⟩
              case measure => rw [N1.out.1.left_eq, hrg.out.left_eq]; exact C1.out
            · have j1 : decide (-(j : Int) < k0) = false := by simpa using g1
              by_cases g2 : -(j : Int) = k0
              · have j2 : ((-(j : Int) : Int) == k0) = true := by simpa using g2
                have G2 := hid g2
                clear g2
                by_cases g3 : (t : Int) < k1
                · have j3 : decide ((t : Int) < k1) = true := by simpa using g3
                  obtain ⟨e1, e2⟩ := LK.out.over
                  have N1 := hid (fin.out _ e2)
                  have N2 := hid e1
                  have N3 : Hid (Lead 2 rest L (fun z => left z && !z.sameKey (.int .i64 x)) false x (-(j : Int)) (t : Int)) := by have := hLd.out.turn HN.out HM.out (.inr (.inr ⟨HK.out.trans G2.out, g3⟩)); rwa [HK.out] at this
                  clear e1 e2
                  go_wp2_with fail
                  go_region
                  go_wp2_with fail
                  go_roundw
                  case rel => exact ⟨_, cnt1, x, false, -(j : Int), (t : Int), rfl, rfl, N1.out.1, N3, N2, N1.out.2⟩
                  case measure => rw [N1.out.1.left_eq, hrg.out.left_eq]; exact C1.out
                · have j3 : decide ((t : Int) < k1) = false := by simpa using g3
                  have N1 := hid (fin.out _ LK.out.goes)
                  have N3 : Hid (Lead 2 rest L (fun z => left z && !z.sameKey (.int .i64 x)) false oo k0 k1) := hLd.out.keep HN.out HM.out (by rw [HK.out]; omega) (by rw [HK.out]; omega)
                  have N2 := hid LK.out.best
                  go_wp2_with fail
                  go_roundw
                  case rel => exact ⟨_, cnt1, oo, false, k0, k1, rfl, rfl, N1.out.1, N3, N2, N1.out.2⟩
                  case measure => rw [N1.out.1.left_eq, hrg.out.left_eq]; exact C1.out
              · have j2 : ((-(j : Int) : Int) == k0) = false := by simpa using g2
                have N1 := hid (fin.out _ LK.out.goes)
                have N3 : Hid (Lead 2 rest L (fun z => left z && !z.sameKey (.int .i64 x)) false oo k0 k1) := hLd.out.keep HN.out HM.out (by rw [HK.out]; omega) (by rw [HK.out]; omega)
                have N2 := hid LK.out.best
                go_wp2_with fail
                go_roundw
                case rel => exact ⟨_, cnt1, oo, false, k0, k1, rfl, rfl, N1.out.1, N3, N2, N1.out.2⟩
                case measure => rw [N1.out.1.left_eq, hrg.out.left_eq]; exact C1.out
        · rw [if_neg hin] at HI
          have HK : Hid (key0 2 rest x = (i : Int) - (refs.length : Int)) := by show _ = _; unfold key0; rw [if_pos rfl, List.idxOf_eq_length hin]; have := HRL.out; omega
          clear hin
          go_wp2_with fail
          refine (HI.out).mono ?_
          rintro rr w3 ⟨rfl, hb3⟩
          have LK := hid (D1.out.below hb3)
          clear hb3 HI D1 e0 e1
          have d1 := LK.out.key.c0
          have d2 := LK.out.key.c1
          have d3 := LK.out.best.c0
          have d4 := LK.out.best.c1
          have d5 := LK.out.best.fz 0
          have d6 := LK.out.best.fz 1
          cases ff with
          | true =>
            obtain ⟨e1, e2⟩ := LK.out.over
            have N1 := hid (fin.out _ e2)
            have N2 := hid e1
            have N3 : Hid (Lead 2 rest L (fun z => left z && !z.sameKey (.int .i64 x)) false x ((i : Int) - (refs.length : Int)) (t : Int)) := by have := hLd.out.turn HN.out HM.out (.inl rfl); rwa [HK.out] at this
            clear e1 e2
            go_wp2_with fail
            go_region
            go_wp2_with fail
            go_roundw
            case rel => exact ⟨_, cnt1, x, false, (i : Int) - (refs.length : Int), (t : Int), rfl, rfl, N1.out.1, N3, N2, N1.out.2⟩
            case measure => rw [N1.out.1.left_eq, hrg.out.left_eq]; exact C1.out
          | false =>
            by_cases g1 : (i : Int) - (refs.length : Int) < k0
            · have j1 : decide ((i : Int) - (refs.length : Int) < k0) = true := by simpa using g1
              obtain ⟨e1, e2⟩ := LK.out.over
              have N1 := hid (fin.out _ e2)
              have N2 := hid e1
              have N3 : Hid (Lead 2 rest L (fun z => left z && !z.sameKey (.int .i64 x)) false x ((i : Int) - (refs.length : Int)) (t : Int)) := by have := hLd.out.turn HN.out HM.out (.inr (.inl (by rw [HK.out]; exact g1))); rwa [HK.out] at this
              clear e1 e2
              go_wp2_with fail
              go_region
              go_wp2_with fail
              go_roundw
              case rel => exact ⟨_, cnt1, x, false, (i : Int) - (refs.length : Int), (t : Int), rfl, rfl, N1.out.1, N3, N2, N1.out.2⟩
              case measure => rw [N1.out.1.left_eq, hrg.out.left_eq]; exact C1.out
            · have j1 : decide ((i : Int) - (refs.length : Int) < k0) = false := by simpa using g1
              by_cases g2 : (i : Int) - (refs.length : Int) = k0
              · have j2 : (((i : Int) - (refs.length : Int) : Int) == k0) = true := by simpa using g2
                have G2 := hid g2
                clear g2
                by_cases g3 : (t : Int) < k1
                · have j3 : decide ((t : Int) < k1) = true := by simpa using g3
                  obtain ⟨e1, e2⟩ := LK.out.over
                  have N1 := hid (fin.out _ e2)
                  have N2 := hid e1
                  have N3 : Hid (Lead 2 rest L (fun z => left z && !z.sameKey (.int .i64 x)) false x ((i : Int) - (refs.length : Int)) (t : Int)) := by have := hLd.out.turn HN.out HM.out (.inr (.inr ⟨HK.out.trans G2.out, g3⟩)); rwa [HK.out] at this
                  clear e1 e2
                  go_wp2_with fail
                  go_region
                  go_wp2_with fail
                  go_roundw
                  case rel => exact ⟨_, cnt1, x, false, (i : Int) - (refs.length : Int), (t : Int), rfl, rfl, N1.out.1, N3, N2, N1.out.2⟩
                  case measure => rw [N1.out.1.left_eq, hrg.out.left_eq]; exact C1.out
                · have j3 : decide ((t : Int) < k1) = false := by simpa using g3
                  have N1 := hid (fin.out _ LK.out.goes)
                  have N3 : Hid (Lead 2 rest L (fun z => left z && !z.sameKey (.int .i64 x)) false oo k0 k1) := hLd.out.keep HN.out HM.out (by rw [HK.out]; omega) (by rw [HK.out]; omega)
                  have N2 := hid LK.out.best
                  go_wp2_with fail
                  go_roundw
                  case rel => exact ⟨_, cnt1, oo, false, k0, k1, rfl, rfl, N1.out.1, N3, N2, N1.out.2⟩
                  case measure => rw [N1.out.1.left_eq, hrg.out.left_eq]; exact C1.out
              · have j2 : (((i : Int) - (refs.length : Int) : Int) == k0) = false := by simpa using g2
                have N1 := hid (fin.out _ LK.out.goes)
                have N3 : Hid (Lead 2 rest L (fun z => left z && !z.sameKey (.int .i64 x)) false oo k0 k1) := hLd.out.keep HN.out HM.out (by rw [HK.out]; omega) (by rw [HK.out]; omega)
                have N2 := hid LK.out.best
                go_wp2_with fail
                go_roundw
                case rel => exact ⟨_, cnt1, oo, false, k0, k1, rfl, rfl, N1.out.1, N3, N2, N1.out.2⟩
                case measure => rw [N1.out.1.left_eq, hrg.out.left_eq]; exact C1.out
      · have j0 : (rule == 2) = false := by simpa using hr2
        have HK : Hid (key0 rule rest x = 0) := by show _ = _; unfold key0; rw [if_neg hr2]
        have d1 := LK.out.key.c0
        have d2 := LK.out.key.c1
        have d3 := LK.out.best.c0
        have d4 := LK.out.best.c1
        have d5 := LK.out.best.fz 0
        have d6 := LK.out.best.fz 1
        cases ff with
        | true =>
          obtain ⟨e1, e2⟩ := LK.out.over
          have N1 := hid (fin.out _ e2)
          have N2 := hid e1
          have N3 : Hid (Lead rule rest L (fun z => left z && !z.sameKey (.int .i64 x)) false x (0) (t : Int)) := by have := hLd.out.turn HN.out HM.out (.inl rfl); rwa [HK.out] at this
          clear e1 e2
          go_wp2_with fail
          go_region
          go_wp2_with fail
          go_roundw
          case rel => exact ⟨_, cnt1, x, false, 0, (t : Int), rfl, rfl, N1.out.1, N3, N2, N1.out.2⟩
          case measure => rw [N1.out.1.left_eq, hrg.out.left_eq]; exact C1.out
        | false =>
          by_cases g1 : 0 < k0
          · have j1 : decide (0 < k0) = true := by simpa using g1
            obtain ⟨e1, e2⟩ := LK.out.over
            have N1 := hid (fin.out _ e2)
            have N2 := hid e1
            have N3 : Hid (Lead rule rest L (fun z => left z && !z.sameKey (.int .i64 x)) false x (0) (t : Int)) := by have := hLd.out.turn HN.out HM.out (.inr (.inl (by rw [HK.out]; exact g1))); rwa [HK.out] at this
            clear e1 e2
            go_wp2_with fail
            go_region
            go_wp2_with fail
            go_roundw
            case rel => exact ⟨_, cnt1, x, false, 0, (t : Int), rfl, rfl, N1.out.1, N3, N2, N1.out.2⟩
            case measure => rw [N1.out.1.left_eq, hrg.out.left_eq]; exact C1.out
          · have j1 : decide (0 < k0) = false := by simpa using g1
            by_cases g2 : 0 = k0
            · have j2 : ((0 : Int) == k0) = true := by simpa using g2
              have G2 := hid g2
              clear g2
              by_cases g3 : (t : Int) < k1
              · have j3 : decide ((t : Int) < k1) = true := by simpa using g3
                obtain ⟨e1, e2⟩ := LK.out.over
                have N1 := hid (fin.out _ e2)
                have N2 := hid e1
                have N3 : Hid (Lead rule rest L (fun z => left z && !z.sameKey (.int .i64 x)) false x (0) (t : Int)) := by have := hLd.out.turn HN.out HM.out (.inr (.inr ⟨HK.out.trans G2.out, g3⟩)); rwa [HK.out] at this
                clear e1 e2
                go_wp2_with fail
                go_region
                go_wp2_with fail
                go_roundw
                case rel => exact ⟨_, cnt1, x, false, 0, (t : Int), rfl, rfl, N1.out.1, N3, N2, N1.out.2⟩
                case measure => rw [N1.out.1.left_eq, hrg.out.left_eq]; exact C1.out
              · have j3 : decide ((t : Int) < k1) = false := by simpa using g3
                have N1 := hid (fin.out _ LK.out.goes)
                have N3 : Hid (Lead rule rest L (fun z => left z && !z.sameKey (.int .i64 x)) false oo k0 k1) := hLd.out.keep HN.out HM.out (by rw [HK.out]; omega) (by rw [HK.out]; omega)
                have N2 := hid LK.out.best
                go_wp2_with fail
                go_roundw
                case rel => exact ⟨_, cnt1, oo, false, k0, k1, rfl, rfl, N1.out.1, N3, N2, N1.out.2⟩
                case measure => rw [N1.out.1.left_eq, hrg.out.left_eq]; exact C1.out
            · have j2 : ((0 : Int) == k0) = false := by simpa using g2
              have N1 := hid (fin.out _ LK.out.goes)
              have N3 : Hid (Lead rule rest L (fun z => left z && !z.sameKey (.int .i64 x)) false oo k0 k1) := hLd.out.keep HN.out HM.out (by rw [HK.out]; omega) (by rw [HK.out]; omega)
              have N2 := hid LK.out.best
              go_wp2_with fail
              go_roundw
              case rel => exact ⟨_, cnt1, oo, false, k0, k1, rfl, rfl, N1.out.1, N3, N2, N1.out.2⟩
              case measure => rw [N1.out.1.left_eq, hrg.out.left_eq]; exact C1.out

end Go.Proofs.Ytlcpioeobnjcdaa.PPool
