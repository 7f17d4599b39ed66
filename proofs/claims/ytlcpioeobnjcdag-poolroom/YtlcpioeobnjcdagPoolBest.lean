/- quirkeep.PoolBest, walked: true whatever is handed in. Conditions: the refs' slice has no less capacity than length, and a length that memory holds. -/
import Derived.Test.YtlcpioeobnjcdagPoolFar
import Derived.Test.YtlcpioeobnjcdagPoolClock
import Derived.Test.YtlcpioeobnjcdagPoolEq
import Derived.Test.YtlcpioeobnjcdagPoolHelp
namespace Go.Proofs.Ytlcpioeobnjcdag.PPool
open Go Go.RowKit
set_option maxRecDepth 100000

theorem row_new {α : Type} {enc : α → Value} (w : World) (T : TypeId) (X : List α) : RowAt enc (w.alloc (.cells (X.map enc).toArray T)) (some ⟨w.heap.size, 0, none⟩) X := fun j x hj => by
  refine ⟨w.heap.size, 0, rfl, ?_⟩
  rw [cell_of_row _ _ _ _ _ _ (heap_alloc_new w _)]
  simp [hj]

theorem out_eq {S : Type} (R : Pl.Rule S) (s0 : S) {size : Int} {refs : List Int} (h : chk size refs.length = 0) : out R s0 size refs = ((R.run size.toNat (s0, []) refs).1, (R.run size.toNat (s0, []) refs).2.2) := by unfold out; rw [if_pos h]
theorem out_len {S : Type} (R : Pl.Rule S) (s0 : S) (size : Int) (refs : List Int) : (out R s0 size refs).1.length ≤ 2000 := by
  unfold out
  split
  · rename_i h
    show (R.run size.toNat (s0, []) refs).1.length ≤ 2000
    rw [run_len]; exact (chk_zero h).2.2.2
  · exact Nat.zero_le _

/-- BELADY, of what the four calls answer. -/
theorem best_best {size : Int} {refs : List Int} (h : chk size refs.length = 0) : Pl.hits (out Pl.fifoR () size refs).1 ≤ Pl.hits (out Pl.bestR () size refs).1 ∧ Pl.hits (out Pl.lruR () size refs).1 ≤ Pl.hits (out Pl.bestR () size refs).1 ∧ Pl.hits (out Pl.clockR (List.replicate 50 false, 0) size refs).1 ≤ Pl.hits (out Pl.bestR () size refs).1 := by
  obtain ⟨h1, h2, h3, h4⟩ := chk_zero h
  rw [out_eq _ _ h, out_eq _ _ h, out_eq _ _ h, out_eq _ _ h]
  simp only
  rw [(Pl.best_run h1 refs).1, (Pl.fifo_run h1 refs).1, (Pl.lru_run h1 refs).1]
  exact ⟨Pl.best_most h1 ((Pl.fifo_keeps h1).alg refs [] (Pl.Ok.nil _)), Pl.best_most h1 ((Pl.lru_keeps h1).alg refs [] (Pl.Ok.nil _)),
    Pl.best_most h1 ((Pl.clock_keeps h1).alg refs ((List.replicate 50 false, 0), []) ⟨Pl.Ok.nil _, h1⟩)⟩

theorem Ans.take {w w' : World} {e : Ending} {y : Int} {O : List Bool × List Int} (h : Ans w w' e y O) : ∃ a1 c1 a2 c2, e = .returned (.tuple #[.slice a1 O.1.length c1, .slice a2 O.2.length c2, .int .i64 y]) ∧ Hid (BoolsAt w' a1 O.1) ∧ Hid (IntsAt w' a2 O.2) ∧ Hid (O.2.length ≤ c2) ∧ Hid (Below w.heap.size w w') := by
  obtain ⟨⟨a1, c1, a2, c2, e, h1, h2, h3⟩, hb⟩ := h
  exact ⟨a1, c1, a2, c2, e, h1, h2, h3, hb⟩
theorem below_to {w w1 w2 : World} (h : Below w.heap.size w w1) (k : Below w1.heap.size w1 w2) : Hid (Below w.heap.size w w2) := below_tr h k

set_option maxHeartbeats 1000000 in
theorem best_walk (w : World) (size : Int) (a : Option Addr) (c : Nat) (refs : List Int) (h : IntsAt w a refs) (hcap : refs.length ≤ c) :
    Calls Try.prog 5 #[.int .i64 size, .slice a refs.length c] w fun e w' => e = .returned (.bool true) ∧ Below w.heap.size w w' := by
  obtain ⟨y, hy⟩ : ∃ y, y = chk size refs.length := ⟨_, rfl⟩
  obtain ⟨Ob, hOb⟩ : ∃ O, O = out Pl.bestR () size refs := ⟨_, rfl⟩
  obtain ⟨Of, hOf⟩ : ∃ O, O = out Pl.fifoR () size refs := ⟨_, rfl⟩
  obtain ⟨Ol, hOl⟩ : ∃ O, O = out Pl.lruR () size refs := ⟨_, rfl⟩
  obtain ⟨Oc, hOc⟩ : ∃ O, O = out Pl.clockR (List.replicate 50 false, 0) size refs := ⟨_, rfl⟩
  have KB : Hid (∀ W, Below w.heap.size w W → Calls Try.prog 15 #[.int .i64 size, .slice a refs.length c] W fun e w' => Ans W w' e y Ob) := fun W hW => by rw [hy, hOb]; exact best_any W size a c refs (h.below hW) hcap
  have KF : Hid (∀ W, Below w.heap.size w W → Calls Try.prog 18 #[.int .i64 size, .slice a refs.length c] W fun e w' => Ans W w' e y Of) := fun W hW => by rw [hy, hOf]; exact fifo_any W size a c refs (h.below hW)
  have KL : Hid (∀ W, Below w.heap.size w W → Calls Try.prog 19 #[.int .i64 size, .slice a refs.length c] W fun e w' => Ans W w' e y Ol) := fun W hW => by rw [hy, hOl]; exact lru_any W size a c refs (h.below hW)
  have KC : Hid (∀ W, Below w.heap.size w W → Calls Try.prog 20 #[.int .i64 size, .slice a refs.length c] W fun e w' => Ans W w' e y Oc) := fun W hW => by rw [hy, hOc]; exact clock_any W size a c refs (h.below hW)
  have lb : Ob.1.length ≤ 2000 := by rw [hOb]; exact out_len _ _ _ _
  have lf : Of.1.length ≤ 2000 := by rw [hOf]; exact out_len _ _ _ _
  have ll : Ol.1.length ≤ 2000 := by rw [hOl]; exact out_len _ _ _ _
  have lc : Oc.1.length ≤ 2000 := by rw [hOc]; exact out_len _ _ _ _
  have M : Hid (y = 0 → Pl.hits Of.1 ≤ Pl.hits Ob.1 ∧ Pl.hits Ol.1 ≤ Pl.hits Ob.1 ∧ Pl.hits Oc.1 ≤ Pl.hits Ob.1) := fun e => by rw [hOf, hOl, hOc, hOb]; exact best_best (by rw [← hy]; exact e)
  clear hy hOb hOf hOl hOc h
  have KT : Hid (∀ W : World, Calls Try.prog 15 #[.int .i64 2, .slice (some ⟨W.heap.size, 0, none⟩) 4 4] (W.alloc (.cells #[.int .i64 1, .int .i64 2, .int .i64 3, .int .i64 1] 3)) fun e w' => Ans (W.alloc (.cells #[.int .i64 1, .int .i64 2, .int .i64 3, .int .i64 1] 3)) w' e 0 (out Pl.bestR () 2 [1, 2, 3, 1])) := fun W => best_any _ 2 _ 4 [1, 2, 3, 1] (row_new W 3 [1, 2, 3, 1]) (by decide)
  have ht : out Pl.bestR () 2 [1, 2, 3, 1] = ([false, false, false, true], [1, 3]) := by decide
  obtain ⟨Ot, hOt⟩ : ∃ O, O = out Pl.bestR () 2 [1, 2, 3, 1] := ⟨_, rfl⟩
  rw [← hOt] at KT ht
  have T1 : Hid (Pl.hits Ot.1 = 1) := by show _ = _; rw [ht]; decide
  have T2 : Hid (Ot.2 = [1, 3]) := by show _ = _; rw [ht]
  have T3 : Hid (Ot.1.length = 4) := by show _ = _; rw [ht]; rfl
  clear hOt ht
  go_enter Try.func5, Try.ntmps5
  go_wp2_with fail
  refine (KT.out w).mono ?_
  rintro r w1 hA
  obtain ⟨a1, c1, a2, c2, rfl, i1, i2, _, b1⟩ := hA.take
  have B1 := below_to (bx w _) b1.out
  have HH := hid (hits_any w1 a1 c1 Ot.1 i1.out (by rw [T3.out]; decide))
  rw [T1.out] at HH
  clear hA b1
  go_wp2_with fail
  refine (HH.out).mono ?_
  rintro r w2 ⟨rfl, hb2⟩
  have B2 := below_to B1.out hb2
  have HE := hid (eqInts_any (w2.alloc (.cells #[.int .i64 1, .int .i64 3] 3)) a2 (some ⟨w2.heap.size, 0, none⟩) c2 2 Ot.2 [1, 3] ((i2.out.below hb2).below (bx _ _)) (row_new w2 3 [1, 3]) (by rw [T2.out]; decide))
  rw [decide_eq_true T2.out] at HE
  clear hb2 HH i1 i2 T3
  go_wp2_with fail
  refine (HE.out).mono ?_
  rintro r w3 ⟨rfl, hb3⟩
  have B3 := below_to (below_to B2.out (bx _ _)).out hb3
  clear hb3 HE B1 B2
  go_wp2_with fail
  refine (KB.out w3 B3.out).mono ?_
  rintro r w4 hA
  obtain ⟨p1, q1, p2, q2, rfl, ib, _, _, b4⟩ := hA.take
  have B4 := below_to B3.out b4.out
  clear hA B3 b4
  go_wp2_with fail
  refine (KF.out w4 B4.out).mono ?_
  rintro r w5 hA
  obtain ⟨p3, q3, p4, q4, rfl, jf, _, _, b5⟩ := hA.take
  have B5 := below_to B4.out b5.out
  have ib5 := hid (ib.out.below b5.out)
  clear hA B4 b5 ib
  go_wp2_with fail
  refine (KL.out w5 B5.out).mono ?_
  rintro r w6 hA
  obtain ⟨p5, q5, p6, q6, rfl, jl, _, _, b6⟩ := hA.take
  have B6 := below_to B5.out b6.out
  have ib6 := hid (ib5.out.below b6.out)
  have jf6 := hid (jf.out.below b6.out)
  clear hA B5 b6 ib5 jf
  go_wp2_with fail
  refine (KC.out w6 B6.out).mono ?_
  rintro r w7 hA
  obtain ⟨p7, q7, p8, q8, rfl, jc, _, _, b7⟩ := hA.take
  have B7 := below_to B6.out b7.out
  have ib7 := hid (ib6.out.below b7.out)
  have jf7 := hid (jf6.out.below b7.out)
  have jl7 := hid (jl.out.below b7.out)
  clear hA B6 b7 ib6 jf6 jl KB KF KL KC KT
  by_cases hy : y = 0
  · subst hy
    obtain ⟨m1, m2, m3⟩ := M.out rfl
    clear M
    have HB := hid (hits_any w7 p1 q1 Ob.1 ib7.out (by omega))
    have F7 := hid (fun W hb => hits_any W p3 q3 Of.1 (jf7.out.below (w' := W) hb) (by omega))
    have L7 := hid (fun W hb => hits_any W p5 q5 Ol.1 (jl7.out.below (w' := W) hb) (by omega))
    have C7 := hid (fun W hb => hits_any W p7 q7 Oc.1 (jc.out.below (w' := W) hb) (by omega))
    generalize Pl.hits Ob.1 = nb at *
    generalize Pl.hits Of.1 = nf at *
    generalize Pl.hits Ol.1 = nl at *
    generalize Pl.hits Oc.1 = nc at *
    clear ib7 jf7 jl7 jc lb lf ll lc
    go_wp2_with fail
    refine (HB.out).mono ?_
    rintro r w8 ⟨rfl, hb8⟩
    have F8 := hid (F7.out w8 hb8)
    have B8 := hid hb8
    clear hb8 HB F7
    go_wp2_with fail
    refine (F8.out).mono ?_
    rintro r w9 ⟨rfl, hb9⟩
    have B9 := below_to B8.out hb9
    have L9 := hid (L7.out w9 B9.out)
    clear hb9 F8 L7 B8
    go_wp2_with fail
    refine (L9.out).mono ?_
    rintro r w10 ⟨rfl, hb10⟩
    have B10 := below_to B9.out hb10
    have C10 := hid (C7.out w10 B10.out)
    clear hb10 L9 C7 B9
    go_wp2_with fail
    refine (C10.out).mono ?_
    rintro r w11 ⟨rfl, hb11⟩
    have B11 := below_to B10.out hb11
    clear hb11 C10 B10
    go_wp2_with fail
    all_goals (go_ret; exact ⟨rfl, (below_to B7.out B11.out).out⟩)
  · have j1 : (y != 0) = true := by simpa using hy
    have j2 : (y == 0) = false := by simpa using hy
    have j3 : (y == y) = true := by simp
    clear M lb lf ll lc ib7 jf7 jl7 jc
    go_wp2_with fail
    go_ret
    exact ⟨rfl, B7.out⟩

end Go.Proofs.Ytlcpioeobnjcdag.PPool
