/- lock.isItem, isRight and Check, walked: each answers what the plain words say, and nothing that was there has turned. Conditions: the locks lie where their slices say; lengths that an int holds. -/
import Derived.Test.YtjoaedkgjnchoanLockTab
import Derived.Test.YtjoaedkgjnchoanLockRgt
import Derived.Test.YtjoaedkgjnchoanLockWay
namespace Go.Proofs.Ytjoaedkgjnchoan.PLock
open Go Go.RowKit PPool
set_option maxRecDepth 100000

theorem isItem_any (w : World) (m : Int) : Calls Try.prog 47 #[.int .i64 m] w fun e w' => e = .returned (.bool (Lk.item m)) ∧ w' = w := by
  obtain ⟨Y, hY⟩ : ∃ Y, Y = Lk.item m := ⟨_, rfl⟩
  rw [← hY]
  have HY := hid hY
  unfold Lk.item at HY
  clear hY
  by_cases h : 0 ≤ m
  · have j : decide (0 ≤ m) = true := by simpa using h
    rw [j, Bool.true_and] at HY
    go_enter Try.func47, Try.ntmps47
    go_wp2_with fail
    go_ret
    exact ⟨by rw [HY.out]; rfl, rfl⟩
  · have j : decide (0 ≤ m) = false := by simpa using h
    rw [j, Bool.false_and] at HY
    go_enter Try.func47, Try.ntmps47
    go_wp2_with fail
    go_ret
    exact ⟨by rw [HY.out]; rfl, rfl⟩

theorem not_right {x : Lk.It} (h : ¬ (x.h ≠ [] ∧ Lk.Rights x.h ∧ Lk.Rights x.q ∧ Lk.Fits x.h)) : Lk.rightB x = false := by
  cases e : Lk.rightB x with
  | false => rfl
  | true =>
    have g := Lk.right_iff.1 e
    exact absurd ⟨g.ne, g.rh, g.rq, g.fh⟩ h
theorem is_right {x : Lk.It} (h : x.h ≠ [] ∧ Lk.Rights x.h ∧ Lk.Rights x.q ∧ Lk.Fits x.h) : Lk.rightB x = Lk.firstOut x.h x.q := by
  unfold Lk.rightB
  rw [decide_eq_true h.2.1, decide_eq_true h.2.2.1, decide_eq_true h.2.2.2]
  have : x.h.isEmpty = false := by
    cases e : x.h with
    | nil => exact absurd e h.1
    | cons _ _ => rfl
  rw [this]
  simp

set_option maxHeartbeats 2000000 in
theorem isRight_any (w : World) (x : Lk.It) (i : Int) (vh vq : Value) (hh : LsAt w vh x.h) (hq : LsAt w vq x.q) :
    Calls Try.prog 64 #[.agg #[.int .i64 i, vh, vq]] w fun e w' => e = .returned (.bool (Lk.rightB x)) ∧ Below w.heap.size w w' := by
  obtain ⟨ah, ch, rfl, h1, h2, h3, _⟩ := hh
  obtain ⟨aq, cq, rfl, q1, q2, q3, _⟩ := hq
  obtain ⟨Y, hY⟩ : ∃ Y, Y = Lk.rightB x := ⟨_, rfl⟩
  rw [← hY]
  have HY := hid hY
  obtain ⟨xi, H, Q⟩ := x
  simp only at *
  have m1 : H.length ≤ 9223372036854775807 := by unfold maxLen at h3; omega
  have m2 : Q.length ≤ 9223372036854775807 := by unfold maxLen at q3; omega
  have K1 := hid fun W hW => areRight_any W ah ch H (h1.below hW) m1
  have K2 := hid fun W hW => areRight_any W aq cq Q (q1.below hW) m2
  have K3 := hid fun W hW => allFit_any W ah ch H (h1.below hW) m1 h2
  have B0 : ∀ T, Hid (Below w.heap.size w (w.alloc (.cells #[.int .i64 i, .slice ah H.length ch, .slice aq Q.length cq] T))) := fun T => bx _ _
  have HC : Hid (∀ T W, Below (w.alloc (.cells #[.int .i64 i, .slice ah H.length ch, .slice aq Q.length cq] T)).heap.size (w.alloc (.cells #[.int .i64 i, .slice ah H.length ch, .slice aq Q.length cq] T)) W → _) := fun T W hW => ibox hW
  by_cases e1 : H = []
  · have HF : Hid (Y = false) := HY.out.trans (not_right (fun h => h.1 e1))
    subst e1
    clear hY HY
    go_enter Try.func64, Try.ntmps64
    go_wp2_with fail
    go_ret
    exact ⟨by rw [HF.out]; rfl, bx _ _⟩
  have z1 : ((H.length : Int) == 0) = false := by
    have : 0 < H.length := List.length_pos_iff.2 e1
    simp; omega
  by_cases e2 : Lk.Rights H
  rotate_left
  · have HF : Hid (Y = false) := HY.out.trans (not_right (fun h => e2 h.2.1))
    rw [decide_eq_false e2] at K1
    clear hY HY e2 h1 q1
    go_enter Try.func64, Try.ntmps64
    go_wp2_with fail
    refine (K1.out _ (B0 _).out).mono ?_
    rintro r w1 ⟨rfl, hb⟩
    have B1 := hid (below_tr (B0 _).out hb)
    clear hb
    go_wp2_with fail
    go_ret
    exact ⟨by rw [HF.out]; rfl, B1.out⟩
  rw [decide_eq_true e2] at K1
  by_cases e3 : Lk.Rights Q
  rotate_left
  · have HF : Hid (Y = false) := HY.out.trans (not_right (fun h => e3 h.2.2.1))
    rw [decide_eq_false e3] at K2
    clear hY HY e2 e3 h1 q1
    go_enter Try.func64, Try.ntmps64
    go_wp2_with fail
    refine (K1.out _ (B0 _).out).mono ?_
    rintro r w1 ⟨rfl, hb⟩
    have B1 := hid (below_tr (B0 _).out hb)
    obtain ⟨c0, c1, c2⟩ := HC.out _ _ hb
    clear hb
    go_wp2_with fail
    refine (K2.out _ B1.out).mono ?_
    rintro r w2 ⟨rfl, hb⟩
    have B2 := hid (below_tr B1.out hb)
    clear hb c0 c1 c2
    go_wp2_with fail
    go_ret
    exact ⟨by rw [HF.out]; rfl, B2.out⟩
  rw [decide_eq_true e3] at K2
  by_cases e4 : Lk.Fits H
  rotate_left
  · have HF : Hid (Y = false) := HY.out.trans (not_right (fun h => e4 h.2.2.2))
    rw [decide_eq_false e4] at K3
    clear hY HY e2 e3 e4 h1 q1
    go_enter Try.func64, Try.ntmps64
    go_wp2_with fail
    refine (K1.out _ (B0 _).out).mono ?_
    rintro r w1 ⟨rfl, hb1⟩
    have B1 := hid (below_tr (B0 _).out hb1)
    obtain ⟨c0, c1, c2⟩ := HC.out _ _ hb1
    go_wp2_with fail
    refine (K2.out _ B1.out).mono ?_
    rintro r w2 ⟨rfl, hb⟩
    have B2 := hid (below_tr B1.out hb)
    clear c0 c1 c2
    obtain ⟨c0, c1, c2⟩ := HC.out _ _ (below_tr hb1 hb)
    clear hb hb1
    go_wp2_with fail
    refine (K3.out _ B2.out).mono ?_
    rintro r w3 ⟨rfl, hb⟩
    have B3 := hid (below_tr B2.out hb)
    clear hb c0 c1 c2
    go_wp2_with fail
    go_ret
    exact ⟨by rw [HF.out]; rfl, B3.out⟩
  rw [decide_eq_true e4] at K3
  have HG : Hid (Y = Lk.firstOut H Q) := HY.out.trans (is_right ⟨e1, e2, e3, e4⟩)
  have l12 := e2.len
  have KC := hid fun W hW l => canBeGiven_any W (.int .i64 i) ah ch H (.slice aq Q.length cq) l (h1.below hW) (by omega)
  cases Q with
  | nil =>
    have HF : Hid (Y = true) := HG.out
    have z2 : (([] : List Lk.Lo).length : Int) = 0 := rfl
    clear hY HY e2 e3 e4 h1 q1 HG KC
    go_enter Try.func64, Try.ntmps64
    go_wp2_with fail
    refine (K1.out _ (B0 _).out).mono ?_
    rintro r w1 ⟨rfl, hb1⟩
    have B1 := hid (below_tr (B0 _).out hb1)
    obtain ⟨c0, c1, c2⟩ := HC.out _ _ hb1
    go_wp2_with fail
    refine (K2.out _ B1.out).mono ?_
    rintro r w2 ⟨rfl, hb2⟩
    have B2 := hid (below_tr B1.out hb2)
    clear c0 c1 c2
    obtain ⟨c0, c1, c2⟩ := HC.out _ _ (below_tr hb1 hb2)
    go_wp2_with fail
    refine (K3.out _ B2.out).mono ?_
    rintro r w3 ⟨rfl, hb⟩
    have B3 := hid (below_tr B2.out hb)
    clear c0 c1 c2
    obtain ⟨c0, c1, c2⟩ := HC.out _ _ (below_tr hb1 (below_tr hb2 hb))
    clear hb hb1 hb2
    go_wp2_with fail
    go_quiet (fail)
    go_wp2_with fail
    go_ret
    exact ⟨by rw [HF.out]; rfl, below_drewN B3.out _⟩
  | cons q Q =>
    have HF : Hid (Y = !Lk.can H q) := HG.out
    have KC := hid fun W hW => KC.out W hW q
    generalize Lk.can H q = C at *
    obtain ⟨b, o, rfl, d1, d2⟩ := q1 0 q rfl
    have HD : Hid (∀ W, Below w.heap.size w W → W.cell? ⟨b, o, none⟩ = some (.int .i64 q.x) ∧ W.cell? ⟨b, o + 1, none⟩ = some (.int .i64 q.m)) := fun W hW => ⟨by have := keep1 hW d1; simpa using this, by have := keep1 hW d2; simpa using this⟩
    obtain ⟨qx, qm⟩ := q
    simp only at KC HD
    generalize hN : (⟨qx, qm⟩ :: Q : List Lk.Lo).length = N at *
    have n0 : (0 : Int) < (N : Int) := by rw [← hN]; simp
    have n1 : 0 < N := by omega
    have n2 : ¬ N = 0 := by omega
    have z2 : ((N : Int) == 0) = false := by simp; omega
    clear hY HY e2 e3 e4 h1 q1 HG d1 d2 hN
    go_enter Try.func64, Try.ntmps64
    go_wp2_with fail
    refine (K1.out _ (B0 _).out).mono ?_
    rintro r w1 ⟨rfl, hb1⟩
    have B1 := hid (below_tr (B0 _).out hb1)
    obtain ⟨c0, c1, c2⟩ := HC.out _ _ hb1
    go_wp2_with fail
    refine (K2.out _ B1.out).mono ?_
    rintro r w2 ⟨rfl, hb2⟩
    have B2 := hid (below_tr B1.out hb2)
    clear c0 c1 c2
    obtain ⟨c0, c1, c2⟩ := HC.out _ _ (below_tr hb1 hb2)
    go_wp2_with fail
    refine (K3.out _ B2.out).mono ?_
    rintro r w3 ⟨rfl, hb⟩
    have B3 := hid (below_tr B2.out hb)
    clear c0 c1 c2
    obtain ⟨c0, c1, c2⟩ := HC.out _ _ (below_tr hb1 (below_tr hb2 hb))
    obtain ⟨d1, d2⟩ := HD.out _ B3.out
    have KD := hid (KC.out _ (B3.out.drew))
    have SB : Hid (∀ W, Below w3.heap.size w3 W → W.cell? ⟨w.heap.size, 0, none⟩ = some (.int .i64 i) ∧ W.cell? ⟨w.heap.size, 1, none⟩ = some (.slice ah H.length ch) ∧ W.cell? ⟨w.heap.size, 2, none⟩ = some (.slice (some ⟨b, o, none⟩) N cq) ∧ W.cell? ⟨b, o, none⟩ = some (.int .i64 qx) ∧ W.cell? ⟨b, o + 1, none⟩ = some (.int .i64 qm)) := fun W hW => ⟨keep1 hW c0, keep1 hW c1, keep1 hW c2, keep1 hW d1, keep1 hW d2⟩
    clear hb hb1 hb2
    go_wp2_with fail
    go_region_held3 (fun W => W.cell? ⟨w.heap.size, 0, none⟩ = some (.int .i64 i) ∧ W.cell? ⟨w.heap.size, 1, none⟩ = some (.slice ah H.length ch) ∧ W.cell? ⟨w.heap.size, 2, none⟩ = some (.slice (some ⟨b, o, none⟩) N cq) ∧ W.cell? ⟨b, o, none⟩ = some (.int .i64 qx) ∧ W.cell? ⟨b, o + 1, none⟩ = some (.int .i64 qm)) ((refine SB.out _ ?_; first | exact B4.out | repeat (first | exact Below.refl _ _ | refine Below.drew ?_)))
      ((go_at_call 68; refine (KD.out).mono ?_; rintro r w4 ⟨rfl, hb4⟩; have B4 : Hid (Below w3.heap.size w3 w4) := below_tr (Below.refl _ _).drew hb4; clear hb4))
    have B5 := hid (below_tr B3.out B4.out)
    go_wp2_with fail
    go_ret
    exact ⟨by rw [HF.out]; rfl, B5.out⟩
end Go.Proofs.Ytjoaedkgjnchoan.PLock
