/- quirkeep.PoolRace, walked: true whatever is handed in. Conditions: the refs' slice has no less capacity than length. -/
import Derived.Test.YtlcpioeobnjcdagPoolBest
namespace Go.Proofs.Ytlcpioeobnjcdag.PPool
open Go Go.RowKit
set_option maxRecDepth 100000

/-- SLEATOR, TARJAN, of what the two calls answer. -/
theorem race_race {a b : Int} {refs : List Int} (h1 : chk a refs.length = 0) (h2 : chk b refs.length = 0) (hab : b ≤ a) :
    ((refs.length : Int) - (Pl.hits (out Pl.lruR () a refs).1 : Int) - b) * (a - b + 1) ≤ a * ((refs.length : Int) - (Pl.hits (out Pl.bestR () b refs).1 : Int)) ∧ Pl.hits (out Pl.lruR () a refs).1 ≤ refs.length ∧ Pl.hits (out Pl.bestR () b refs).1 ≤ refs.length := by
  obtain ⟨a1, a2, a3, a4⟩ := chk_zero h1
  obtain ⟨b1, b2, b3, _⟩ := chk_zero h2
  rw [out_eq _ _ h1, out_eq _ _ h2]
  simp only
  have l1 := run_len Pl.lruR a.toNat refs ((), [])
  have l2 := run_len Pl.bestR b.toNat refs ((), [])
  have m1 := Pl.hits_misses (Pl.lruR.run a.toNat ((), []) refs).1
  have m2 := Pl.hits_misses (Pl.bestR.run b.toNat ((), []) refs).1
  have hr := Pl.race_all (a := a.toNat) (b := b.toNat) (q := a.toNat - b.toNat + 1) b1 (by omega) (by omega) refs _ ((Pl.best_keeps b1).alg refs [] (Pl.Ok.nil _))
  rw [← (Pl.lru_run a1 refs).1, ← (Pl.best_run b1 refs).1] at hr
  generalize Pl.hits (Pl.lruR.run a.toNat ((), []) refs).1 = x at *
  generalize Pl.hits (Pl.bestR.run b.toNat ((), []) refs).1 = y at *
  generalize Pl.misses (Pl.lruR.run a.toNat ((), []) refs).1 = mx at *
  generalize Pl.misses (Pl.bestR.run b.toNat ((), []) refs).1 = my at *
  rw [l1] at m1
  rw [l2] at m2
  refine ⟨?_, by omega, by omega⟩
  have e1 : (refs.length : Int) - (x : Int) = (mx : Int) := by omega
  have e2 : (refs.length : Int) - (y : Int) = (my : Int) := by omega
  rw [e1, e2]
  generalize a.toNat = A at *
  generalize b.toNat = B at *
  obtain ⟨q, hq⟩ : ∃ q, q = A - B + 1 := ⟨_, rfl⟩
  have e3 : a - b + 1 = (q : Int) := by omega
  rw [e3, ← a3, ← b3]
  rw [← hq] at hr
  have hr' : ((mx * q : Nat) : Int) ≤ ((A * my + B * q : Nat) : Int) := by omega
  rw [Int.natCast_mul, Int.natCast_add, Int.natCast_mul, Int.natCast_mul] at hr'
  rw [Int.sub_mul]
  omega
/-- The numbers that it reckons with are small. -/
theorem race_small {n x y A B : Int} (hn : n ≤ 2000) (hx0 : 0 ≤ x) (hx : x ≤ n) (hy0 : 0 ≤ y) (hy : y ≤ n) (hA : A ≤ 50) (hB : 1 ≤ B) (hAB : B ≤ A) :
    (-1000000 ≤ (n - x - B) * (A - B + 1) ∧ (n - x - B) * (A - B + 1) ≤ 1000000) ∧ (-1000000 ≤ A * (n - y) ∧ A * (n - y) ≤ 1000000) := by
  have q0 : 0 ≤ A - B + 1 := by omega
  have q1 : A - B + 1 ≤ 50 := by omega
  refine ⟨⟨?_, ?_⟩, ?_, ?_⟩
  · have h1 : (-2000) * (A - B + 1) ≤ (n - x - B) * (A - B + 1) := Int.mul_le_mul_of_nonneg_right (by omega) q0
    omega
  · have h1 : (n - x - B) * (A - B + 1) ≤ 2000 * (A - B + 1) := Int.mul_le_mul_of_nonneg_right (by omega) q0
    omega
  · have h1 : 0 ≤ A * (n - y) := Int.mul_nonneg (by omega) (by omega)
    omega
  · have h1 : A * (n - y) ≤ A * 2000 := Int.mul_le_mul_of_nonneg_left (by omega) (by omega)
    omega

theorem wrap_small {x : Int} (h1 : -1000000 ≤ x) (h2 : x ≤ 1000000) : wrap64 x = x := by unfold wrap64; omega

set_option maxHeartbeats 1000000 in
theorem race_walk (w : World) (a b : Int) (sa : Option Addr) (c : Nat) (refs : List Int) (h : IntsAt w sa refs) (hcap : refs.length ≤ c) :
    Calls Try.prog 7 #[.int .i64 a, .int .i64 b, .slice sa refs.length c] w fun e w' => e = .returned (.bool true) ∧ Below w.heap.size w w' := by
  obtain ⟨A, B, hAB, hA, hB⟩ : ∃ A B : Int, B ≤ A ∧ (a < b → A = b ∧ B = a) ∧ (b ≤ a → A = a ∧ B = b) := by
    by_cases e : a < b
    · exact ⟨b, a, by omega, fun _ => ⟨rfl, rfl⟩, fun h => by omega⟩
    · exact ⟨a, b, by omega, fun h => absurd h e, fun _ => ⟨rfl, rfl⟩⟩
  obtain ⟨y1, hy1⟩ : ∃ y, y = chk A refs.length := ⟨_, rfl⟩
  obtain ⟨y2, hy2⟩ : ∃ y, y = chk B refs.length := ⟨_, rfl⟩
  obtain ⟨O1, hO1⟩ : ∃ O, O = out Pl.lruR () A refs := ⟨_, rfl⟩
  obtain ⟨O2, hO2⟩ : ∃ O, O = out Pl.bestR () B refs := ⟨_, rfl⟩
  have K1 : Hid (∀ W, Below w.heap.size w W → Calls Try.prog 19 #[.int .i64 A, .slice sa refs.length c] W fun e w' => Ans W w' e y1 O1) := fun W hW => by rw [hy1, hO1]; exact lru_any W A sa c refs (h.below hW)
  have K2 : Hid (∀ W, Below w.heap.size w W → Calls Try.prog 15 #[.int .i64 B, .slice sa refs.length c] W fun e w' => Ans W w' e y2 O2) := fun W hW => by rw [hy2, hO2]; exact best_any W B sa c refs (h.below hW) hcap
  have l1 : O1.1.length ≤ 2000 := by rw [hO1]; exact out_len _ _ _ _
  have l2 : O2.1.length ≤ 2000 := by rw [hO2]; exact out_len _ _ _ _
  have M : Hid (y1 = 0 → y2 = 0 → (((refs.length : Int) - (Pl.hits O1.1 : Int) - B) * (A - B + 1) ≤ A * ((refs.length : Int) - (Pl.hits O2.1 : Int)) ∧ Pl.hits O1.1 ≤ refs.length ∧ Pl.hits O2.1 ≤ refs.length) ∧ refs.length ≤ 2000 ∧ A ≤ 50 ∧ 1 ≤ B) := fun e1 e2 => by
    rw [hy1] at e1
    rw [hy2] at e2
    obtain ⟨x1, x2, x3, x4⟩ := chk_zero e1
    obtain ⟨z1, z2, z3, _⟩ := chk_zero e2
    rw [hO1, hO2]
    exact ⟨race_race e1 e2 hAB, x4, by omega, by omega⟩
  have HA := hid hA
  have HB := hid hB
  clear hy1 hy2 hO1 hO2 h hA hB
  have KT : Hid (∀ W : World, Calls Try.prog 19 #[.int .i64 1, .slice (some ⟨W.heap.size, 0, none⟩) 2 2] (W.alloc (.cells #[.int .i64 7, .int .i64 7] 3)) fun e w' => Ans (W.alloc (.cells #[.int .i64 7, .int .i64 7] 3)) w' e 0 (out Pl.lruR () 1 [7, 7])) := fun W => lru_any _ 1 _ 2 [7, 7] (row_new W 3 [7, 7])
  have ht : out Pl.lruR () 1 [7, 7] = ([false, true], [7]) := by decide
  obtain ⟨Ot, hOt⟩ : ∃ O, O = out Pl.lruR () 1 [7, 7] := ⟨_, rfl⟩
  rw [← hOt] at KT ht
  have T1 : Hid (Ot.1 = [false, true]) := by show _ = _; rw [ht]
  clear hOt ht
  go_enter Try.func7, Try.ntmps7
  go_wp2_with fail
  refine (KT.out w).mono ?_
  rintro r w1 hA
  obtain ⟨a1, c1, a2, c2, rfl, i1, _, _, b1⟩ := hA.take
  have B1 := below_to (bx w _) b1.out
  have HE := hid (eqBools_any (w1.alloc (.cells #[.bool false, .bool true] 4)) a1 (some ⟨w1.heap.size, 0, none⟩) c1 2 Ot.1 [false, true] (i1.out.below (bx _ _)) (row_new w1 4 [false, true]) (by rw [T1.out]; decide))
  rw [decide_eq_true T1.out] at HE
  clear hA b1 i1 KT
  go_wp2_with fail
  refine (HE.out).mono ?_
  rintro r w3 ⟨rfl, hb3⟩
  have B3 := below_to (below_to B1.out (bx _ _)).out hb3
  clear hb3 HE B1 T1
  by_cases e : a < b
  · obtain ⟨rfl, rfl⟩ := HA.out e
    clear HA HB
    have j0 : decide (B < A) = true := by simpa using e
    go_wp2_with fail
    refine (K1.out w3 B3.out).mono ?_
    rintro r w4 hA
    obtain ⟨p1, q1, p2, q2, rfl, i4, _, _, b4⟩ := hA.take
    have B4 := below_to B3.out b4.out
    clear hA B3 b4
    go_wp2_with fail
    refine (K2.out w4 B4.out).mono ?_
    rintro r w5 hA
    obtain ⟨p3, q3, p4, q4, rfl, i5, _, _, b5⟩ := hA.take
    have B5 := below_to B4.out b5.out
    have i4' := hid (i4.out.below b5.out)
    clear hA B4 b5 i4 K1 K2
    by_cases hy1 : y1 = 0
    · by_cases hy2 : y2 = 0
      · subst hy1; subst hy2
        obtain ⟨⟨m1, m2, m3⟩, m4, m5, m6⟩ := M.out rfl rfl
        clear M
        have H1 := hid (hits_any w5 p1 q1 O1.1 i4'.out (by omega))
        have H2 := hid (fun W hb => hits_any W p3 q3 O2.1 (i5.out.below (w' := W) hb) (by omega))
        generalize Pl.hits O1.1 = n1 at *
        generalize Pl.hits O2.1 = n2 at *
        clear i4' i5 l1 l2
        have M1 := hid m1
        have S := hid (race_small (n := refs.length) (x := n1) (y := n2) (A := A) (B := B) (by omega) (by omega) (by omega) (by omega) (by omega) m5 m6 hAB)
        clear m1
        go_wp2_with fail
        refine (H1.out).mono ?_
        rintro r w6 ⟨rfl, hb6⟩
        have H26 := hid (H2.out w6 hb6)
        have B6 := below_to B5.out hb6
        clear hb6 H1 H2 B5
        go_wp2_with fail
        refine (H26.out).mono ?_
        rintro r w7 ⟨rfl, hb7⟩
        have B7 := below_to B6.out hb7
        clear hb7 H26 B6
        go_wp2_with fail
        go_ret
        refine ⟨?_, B7.out⟩
        show Ending.returned (.bool (decide (wrap64 _ ≤ wrap64 _))) = _
        rw [wrap_small S.out.1.1 S.out.1.2, wrap_small S.out.2.1 S.out.2.2, decide_eq_true M1.out]
      · subst hy1
        have j2 : (y2 != 0) = true := by simpa using hy2
        clear M l1 l2 i4' i5
        go_wp2_with fail
        go_ret
        exact ⟨rfl, B5.out⟩
    · have j1 : (y1 != 0) = true := by simpa using hy1
      clear M l1 l2 i4' i5
      go_wp2_with fail
      go_ret
      exact ⟨rfl, B5.out⟩
  · obtain ⟨rfl, rfl⟩ := HB.out (by omega)
    clear HA HB
    have j0 : decide (A < B) = false := by simpa using e
    go_wp2_with fail
    refine (K1.out w3 B3.out).mono ?_
    rintro r w4 hA
    obtain ⟨p1, q1, p2, q2, rfl, i4, _, _, b4⟩ := hA.take
    have B4 := below_to B3.out b4.out
    clear hA B3 b4
    go_wp2_with fail
    refine (K2.out w4 B4.out).mono ?_
    rintro r w5 hA
    obtain ⟨p3, q3, p4, q4, rfl, i5, _, _, b5⟩ := hA.take
    have B5 := below_to B4.out b5.out
    have i4' := hid (i4.out.below b5.out)
    clear hA B4 b5 i4 K1 K2
    by_cases hy1 : y1 = 0
    · by_cases hy2 : y2 = 0
      · subst hy1; subst hy2
        obtain ⟨⟨m1, m2, m3⟩, m4, m5, m6⟩ := M.out rfl rfl
        clear M
        have H1 := hid (hits_any w5 p1 q1 O1.1 i4'.out (by omega))
        have H2 := hid (fun W hb => hits_any W p3 q3 O2.1 (i5.out.below (w' := W) hb) (by omega))
        generalize Pl.hits O1.1 = n1 at *
        generalize Pl.hits O2.1 = n2 at *
        clear i4' i5 l1 l2
        have M1 := hid m1
        have S := hid (race_small (n := refs.length) (x := n1) (y := n2) (A := A) (B := B) (by omega) (by omega) (by omega) (by omega) (by omega) m5 m6 hAB)
        clear m1
        go_wp2_with fail
        refine (H1.out).mono ?_
        rintro r w6 ⟨rfl, hb6⟩
        have H26 := hid (H2.out w6 hb6)
        have B6 := below_to B5.out hb6
        clear hb6 H1 H2 B5
        go_wp2_with fail
        refine (H26.out).mono ?_
        rintro r w7 ⟨rfl, hb7⟩
        have B7 := below_to B6.out hb7
        clear hb7 H26 B6
        go_wp2_with fail
        go_ret
        refine ⟨?_, B7.out⟩
        show Ending.returned (.bool (decide (wrap64 _ ≤ wrap64 _))) = _
        rw [wrap_small S.out.1.1 S.out.1.2, wrap_small S.out.2.1 S.out.2.2, decide_eq_true M1.out]
      · subst hy1
        have j2 : (y2 != 0) = true := by simpa using hy2
        clear M l1 l2 i4' i5
        go_wp2_with fail
        go_ret
        exact ⟨rfl, B5.out⟩
    · have j1 : (y1 != 0) = true := by simpa using hy1
      clear M l1 l2 i4' i5
      go_wp2_with fail
      go_ret
      exact ⟨rfl, B5.out⟩

end Go.Proofs.Ytlcpioeobnjcdag.PPool
