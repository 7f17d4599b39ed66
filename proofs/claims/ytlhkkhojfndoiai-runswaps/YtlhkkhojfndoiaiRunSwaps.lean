/- quirkeep.RunSwaps, walked: it answers true, and nothing that was there has turned. Conditions: how many operations there are, that the capacity is no less. -/
import Derived.Test.YtlhkkhojfndoiaiRunLik
import Derived.Test.YtlhkkhojfndoiaiRunTurn
import Derived.BigRegion
import Derived.Deep.CutRange
namespace Go.Proofs.Ytlhkkhojfndoiai.PRun
open Go Go.RowKit PPool PGraph
set_option maxRecDepth 100000

theorem two_new (w : World) (A B : Array Value) (T U : TypeId) : ArrAt ((w.alloc (.cells A T)).alloc (.cells B U)).drew w.heap.size A ∧ ArrAt ((w.alloc (.cells A T)).alloc (.cells B U)).drew (w.heap.size + 1) B := by
  have h1 : ArrAt ((w.alloc (.cells A T)).alloc (.cells B U)) w.heap.size A := (ArrAt.new w A T).below (bx _ _)
  have h2 := ArrAt.new (w.alloc (.cells A T)) B U
  rw [show (w.alloc (.cells A T)).heap.size = w.heap.size + 1 by simp] at h2
  exact ⟨h1, h2⟩
/-- The three cells of an operation in a row of one's own, laid anew. -/
theorem op_spot {w : World} {base g n c : Nat} {X : List Rn.Op} (h : OwnOp w base (.slice (some ⟨g, 0, none⟩) n c) X) {k : Nat} (hk : k < X.length) :
    (∃ v, w.cell? ⟨g, k * 3, none⟩ = some v) ∧ (∃ v, w.cell? ⟨g, k * 3 + 1, none⟩ = some v) ∧ (∃ v, w.cell? ⟨g, k * 3 + 2, none⟩ = some v) ∧ ∀ i, w.frozen? ⟨g, i, none⟩ = false := by
  obtain ⟨x, hx⟩ : ∃ x, X[k]? = some x := ⟨_, List.getElem?_eq_getElem hk⟩
  obtain ⟨d1, d2, d3⟩ := h.cells hx
  exact ⟨⟨_, d1⟩, ⟨_, d2⟩, ⟨_, d3⟩, h.fz⟩

def sX : List Rn.Op := [⟨0, 1, 1⟩, ⟨1, 2, 1⟩]
def sY : List Rn.Op := [⟨1, 2, 1⟩, ⟨0, 1, 1⟩]
theorem sX_same : likeB sX sX = true ∧ likeE sX sX = 0 := by decide +kernel
theorem sX_other : likeB sX sY = false ∧ likeE sX sY = 0 := by decide +kernel
set_option maxHeartbeats 8000000 in
theorem swaps_walk (w : World) (a : Option Addr) (c : Nat) (X : List Rn.Op) (n : Int) (h : OpAt w a X) (hl : X.length ≤ 9223372036854775807) (hcap : X.length ≤ c) (_ : (Lit.int .i64 n).wf = true) :
    Calls Try.prog 5 #[.slice a X.length c, .int .i64 n] w fun e w' => e = .returned (.bool true) ∧ Below w.heap.size w w' := by
  have H := hid h
  have KO := hid fun W x k i => op_any W x k i
  have K1 := hid fun W a b h1 h2 => like_any W a b 2 2 sX sX h1 h2 (by decide) (by decide) (by decide)
  rw [sX_same.1, sX_same.2] at K1
  have K2 := hid fun W a b h1 h2 => like_any W a b 2 2 sX sY h1 h2 (by decide) (by decide) (by decide)
  rw [sX_other.1, sX_other.2] at K2
  have KC := hid fun W h => check_any W a c X h hl
  clear h
  go_enter Try.func5, Try.ntmps5
  go_wp2_with fail
  refine (KO.out w 0 1 1).mono ?_
  rintro r w1 ⟨rfl, hb1⟩
  have B1 := hid hb1
  clear hb1
  go_wp2_with fail
  refine (KO.out w1 1 2 1).mono ?_
  rintro r w2 ⟨rfl, hb2⟩
  have B2 : Hid (Below w.heap.size w w2) := below_tr B1.out hb2
  clear hb2 B1
  have P2 : ∀ T, Hid (OpAt (w2.alloc (.cells #[.int .i64 0, .int .i64 1, .int .i64 1, .int .i64 1, .int .i64 2, .int .i64 1] T)) (some ⟨w2.heap.size, 0, none⟩) sX ∧ Below w.heap.size w (w2.alloc (.cells #[.int .i64 0, .int .i64 1, .int .i64 1, .int .i64 1, .int .i64 2, .int .i64 1] T))) := fun T => ⟨row_at w2 sX _ T rfl, below_tr B2.out (bx _ _)⟩
  go_wp2_with fail
  refine (KO.out _ 1 2 1).mono ?_
  rintro r w3 ⟨rfl, hb3⟩
  have P3 : Hid (OpAt w3 (some ⟨w2.heap.size, 0, none⟩) sX ∧ Below w.heap.size w w3) := ⟨(P2 _).out.1.below hb3, below_tr (P2 _).out.2 hb3⟩
  clear hb3 P2
  go_wp2_with fail
  refine (KO.out _ 0 1 1).mono ?_
  rintro r w4 ⟨rfl, hb4⟩
  have P4 : ∀ T, Hid (OpAt (w4.alloc (.cells #[.int .i64 1, .int .i64 2, .int .i64 1, .int .i64 0, .int .i64 1, .int .i64 1] T)) (some ⟨w2.heap.size, 0, none⟩) sX ∧ OpAt (w4.alloc (.cells #[.int .i64 1, .int .i64 2, .int .i64 1, .int .i64 0, .int .i64 1, .int .i64 1] T)) (some ⟨w4.heap.size, 0, none⟩) sY ∧ Below w.heap.size w (w4.alloc (.cells #[.int .i64 1, .int .i64 2, .int .i64 1, .int .i64 0, .int .i64 1, .int .i64 1] T))) := fun T => ⟨(P3.out.1.below hb4).below (bx _ _), row_at w4 sY _ T rfl, below_tr P3.out.2 (below_tr hb4 (bx _ _))⟩
  clear hb4 P3 KO
  go_wp2_with fail
  refine (K1.out _ _ _ (P4 _).out.1 (P4 _).out.1).mono ?_
  rintro r w5 ⟨rfl, hb5⟩
  have P5 : Hid (OpAt w5 (some ⟨w2.heap.size, 0, none⟩) sX ∧ OpAt w5 (some ⟨w4.heap.size, 0, none⟩) sY ∧ Below w.heap.size w w5) := ⟨(P4 _).out.1.below hb5, (P4 _).out.2.1.below hb5, below_tr (P4 _).out.2.2 hb5⟩
  clear hb5 P4 K1
  go_wp2_with fail
  refine (K2.out _ _ _ P5.out.1 P5.out.2.1).mono ?_
  rintro r w6 ⟨rfl, hb6⟩
  have B6 : Hid (Below w.heap.size w w6) := below_tr P5.out.2.2 hb6
  clear hb6 P5 K2 B2
  go_wp2_with fail
  refine (KC.out _ (H.out.below B6.out)).mono ?_
  rintro r w7 ⟨rfl, hb7⟩
  have B7 : Hid (Below w.heap.size w w7) := below_tr B6.out hb7
  clear hb7 B6 KC
  by_cases hv : Rn.check X = 0
  rotate_left
  · generalize Rn.check X = v at *
    have hv0 : (v != 0) = true := by simpa using hv
    clear hv
    go_wp2_with fail
    go_ret
    exact ⟨rfl, B7.out⟩
  rw [hv]
  have HV := hid hv
  have hl200 := (Rn.check_zero hv).1
  clear hv
  by_cases h2 : X.length < 2
  · have h2I : (X.length : Int) < 2 := by omega
    go_wp2_with fail
    go_ret
    exact ⟨rfl, B7.out⟩
  have h2I : ¬ (X.length : Int) < 2 := by omega
  have KR := hid fun W => rest_any n ((X.length : Int) - 1) W (by omega) (by omega)
  obtain ⟨k, hk⟩ : ∃ k : Nat, n % ((X.length : Int) - 1) = (k : Int) := ⟨(n % ((X.length : Int) - 1)).toNat, by have := Int.emod_nonneg n (show (X.length : Int) - 1 ≠ 0 by omega); omega⟩
  have hkl : k + 1 < X.length := by have := Int.emod_lt_of_pos n (show 0 < (X.length : Int) - 1 by omega); omega
  rw [hk] at KR
  clear hk
  obtain ⟨x, hx⟩ : ∃ x, X[k]? = some x := ⟨_, List.getElem?_eq_getElem (by omega)⟩
  obtain ⟨y, hy⟩ : ∃ y, X[k + 1]? = some y := ⟨_, List.getElem?_eq_getElem hkl⟩
  obtain ⟨b, o, rfl, d1, d2, d3⟩ := (H.out.below B7.out) k x hx
  obtain ⟨b', o', e, e1, e2, e3⟩ := (H.out.below B7.out) (k + 1) y hy
  injection e with e
  injection e with g1 g2
  subst g1; subst g2
  have k0 : (0 : Int) ≤ (k : Int) := by omega
  have k1 : (k : Int) < (X.length : Int) := by omega
  have k2 : (k : Int) + 1 < (X.length : Int) := by omega
  have k3 : (0 : Int) ≤ (k : Int) + 1 := by omega
  have HX := hid hx
  have HY := hid hy
  clear hx hy
  obtain ⟨xx, xk, xi⟩ := x
  obtain ⟨yx, yk, yi⟩ := y
  simp only at d1 d2 d3 e1 e2 e3
  go_wp2_with fail
  refine (KR.out _).mono ?_
  rintro r w8 ⟨rfl, rfl⟩
  clear KR
  have d1a : ∀ o1 : Obj, (w8.alloc o1).cell? ⟨b, o + k * 3, none⟩ = some (.int .i64 xx) := fun o1 => keep1 (bx w8 o1) d1
  have d1b : ∀ o1 o2 : Obj, ((w8.alloc o1).alloc o2).cell? ⟨b, o + k * 3, none⟩ = some (.int .i64 xx) := fun o1 o2 => keep1 (bx2 w8 o1 o2) d1
  have d2a : ∀ o1 : Obj, (w8.alloc o1).cell? ⟨b, o + k * 3 + 1, none⟩ = some (.int .i64 xk) := fun o1 => keep1 (bx w8 o1) d2
  have d2b : ∀ o1 o2 : Obj, ((w8.alloc o1).alloc o2).cell? ⟨b, o + k * 3 + 1, none⟩ = some (.int .i64 xk) := fun o1 o2 => keep1 (bx2 w8 o1 o2) d2
  have d3a : ∀ o1 : Obj, (w8.alloc o1).cell? ⟨b, o + k * 3 + 2, none⟩ = some (.int .i64 xi) := fun o1 => keep1 (bx w8 o1) d3
  have d3b : ∀ o1 o2 : Obj, ((w8.alloc o1).alloc o2).cell? ⟨b, o + k * 3 + 2, none⟩ = some (.int .i64 xi) := fun o1 o2 => keep1 (bx2 w8 o1 o2) d3
  have e1a : ∀ o1 : Obj, (w8.alloc o1).cell? ⟨b, o + (k + 1) * 3, none⟩ = some (.int .i64 yx) := fun o1 => keep1 (bx w8 o1) e1
  have e1b : ∀ o1 o2 : Obj, ((w8.alloc o1).alloc o2).cell? ⟨b, o + (k + 1) * 3, none⟩ = some (.int .i64 yx) := fun o1 o2 => keep1 (bx2 w8 o1 o2) e1
  have e2a : ∀ o1 : Obj, (w8.alloc o1).cell? ⟨b, o + (k + 1) * 3 + 1, none⟩ = some (.int .i64 yk) := fun o1 => keep1 (bx w8 o1) e2
  have e2b : ∀ o1 o2 : Obj, ((w8.alloc o1).alloc o2).cell? ⟨b, o + (k + 1) * 3 + 1, none⟩ = some (.int .i64 yk) := fun o1 o2 => keep1 (bx2 w8 o1 o2) e2
  have e3a : ∀ o1 : Obj, (w8.alloc o1).cell? ⟨b, o + (k + 1) * 3 + 2, none⟩ = some (.int .i64 yi) := fun o1 => keep1 (bx w8 o1) e3
  have e3b : ∀ o1 o2 : Obj, ((w8.alloc o1).alloc o2).cell? ⟨b, o + (k + 1) * 3 + 2, none⟩ = some (.int .i64 yi) := fun o1 o2 => keep1 (bx2 w8 o1 o2) e3
  go_upto_region 11 with fail
  go_cut [12, 13] from 60 to 68 (fun p q wx => ∃ bx by_ : Nat, p = .pointer (some ⟨bx, 0, none⟩) ∧ q = .pointer (some ⟨by_, 0, none⟩) ∧ Hid (ArrAt wx bx #[.int .i64 xx, .int .i64 xk, .int .i64 xi] ∧ ArrAt wx by_ #[.int .i64 yx, .int .i64 yk, .int .i64 yi] ∧ Below w.heap.size w wx))
  case first =>
    go_region
    all_goals
      go_wp2_with fail
      go_meet
      first
      | exact ⟨_, _, rfl, rfl, (two_new _ _ _ _ _).1, (two_new _ _ _ _ _).2, below_tr B7.out (bx2 _ _ _).drew⟩
      | exact ⟨_, _, rfl, rfl, (two_new _ _ _ _ _).2, (two_new _ _ _ _ _).1, below_tr B7.out (bx2 _ _ _).drew⟩
  case rest =>
    obtain ⟨p, q, rfl, rfl, hA⟩ := hcut
    clear d1a d1b d2a d2b d3a d3b e1a e1b e2a e2b e3a e3b d1 d2 d3 e1 e2 e3
    have f1 := hA.out.1.cell (j := 0) (v := .int .i64 xx) rfl
    have f2 := hA.out.2.1.cell (j := 0) (v := .int .i64 yx) rfl
    by_cases hxy : xx = yx
    · have hB : (xx == yx) = true := by simpa using hxy
      have HB := hid hA.out.2.2
      clear hA
      go_wp2_with fail
      go_ret
      exact ⟨rfl, HB.out⟩
    have hB : (xx == yx) = false := by simpa using hxy
    have HN := hid hxy
    clear hxy
    have KN := hid fun W h => clone_any W (some ⟨b, o, none⟩) c X h (by omega)
    go_wp2_with fail
    refine (KN.out _ (H.out.below hA.out.2.2)).mono ?_
    rintro r w9 ⟨v9, rfl, ho9, hb9⟩
    obtain ⟨g, cg, rfl, hcg⟩ := ho9.some (by omega)
    have gB := ho9.ge
    have A9 : Hid (ArrAt w9 p #[.int .i64 xx, .int .i64 xk, .int .i64 xi] ∧ ArrAt w9 q #[.int .i64 yx, .int .i64 yk, .int .i64 yi] ∧ Below w.heap.size w w9) := ⟨hA.out.1.below hb9, hA.out.2.1.below hb9, below_tr hA.out.2.2 hb9⟩
    have np : p ≠ g := by have := arr_lt hA.out.1; omega
    have nq : q ≠ g := by have := arr_lt hA.out.2.1; omega
    have gw : w.heap.size ≤ g := by have := hA.out.2.2.size; omega
    have O9 := hid ho9
    clear ho9 hb9 hA KN f1 f2
    have a1 := A9.out.1.cell (j := 0) (v := .int .i64 xx) rfl
    have a2 := A9.out.1.cell (j := 1) (v := .int .i64 xk) rfl
    have a3 := A9.out.1.cell (j := 2) (v := .int .i64 xi) rfl
    have b1 := A9.out.2.1.cell (j := 0) (v := .int .i64 yx) rfl
    have b2 := A9.out.2.1.cell (j := 1) (v := .int .i64 yk) rfl
    have b3 := A9.out.2.1.cell (j := 2) (v := .int .i64 yi) rfl
    obtain ⟨⟨s1, t1⟩, ⟨s2, t2⟩, ⟨s3, t3⟩, t4⟩ := op_spot O9.out (k := k) (by omega)
    have O10 : OwnOp (((w9.setCell ⟨g, k * 3, none⟩ (.int .i64 yx)).setCell ⟨g, k * 3 + 1, none⟩ (.int .i64 yk)).setCell ⟨g, k * 3 + 2, none⟩ (.int .i64 yi)) _ _ _ := O9.out.set k (by omega) ⟨yx, yk, yi⟩
    obtain ⟨⟨s5, t5⟩, ⟨s6, t6⟩, ⟨s7, t7⟩, t8⟩ := op_spot O10 (k := k + 1) (by rw [List.length_set]; omega)
    have O11 : Hid (OwnOp ((((((w9.setCell ⟨g, k * 3, none⟩ (.int .i64 yx)).setCell ⟨g, k * 3 + 1, none⟩ (.int .i64 yk)).setCell ⟨g, k * 3 + 2, none⟩ (.int .i64 yi)).setCell ⟨g, (k + 1) * 3, none⟩ (.int .i64 xx)).setCell ⟨g, (k + 1) * 3 + 1, none⟩ (.int .i64 xk)).setCell ⟨g, (k + 1) * 3 + 2, none⟩ (.int .i64 xi)) _ _ (Rn.swp X k ⟨xx, xk, xi⟩ ⟨yx, yk, yi⟩)) := O10.set (k + 1) (by rw [List.length_set]; omega) ⟨xx, xk, xi⟩
    clear O10
    have keepB : ∀ (b' : Nat), b' ≠ g → (((((((w9.setCell ⟨g, k * 3, none⟩ (.int .i64 yx)).setCell ⟨g, k * 3 + 1, none⟩ (.int .i64 yk)).setCell ⟨g, k * 3 + 2, none⟩ (.int .i64 yi)).setCell ⟨g, (k + 1) * 3, none⟩ (.int .i64 xx)).setCell ⟨g, (k + 1) * 3 + 1, none⟩ (.int .i64 xk)).setCell ⟨g, (k + 1) * 3 + 2, none⟩ (.int .i64 xi)).drew).heap[b']? = w9.heap[b']? := fun b' hne => by
      show (((((((w9.setCell ⟨g, k * 3, none⟩ (.int .i64 yx)).setCell ⟨g, k * 3 + 1, none⟩ (.int .i64 yk)).setCell ⟨g, k * 3 + 2, none⟩ (.int .i64 yi)).setCell ⟨g, (k + 1) * 3, none⟩ (.int .i64 xx)).setCell ⟨g, (k + 1) * 3 + 1, none⟩ (.int .i64 xk)).setCell ⟨g, (k + 1) * 3 + 2, none⟩ (.int .i64 xi))).heap[b']? = _
      rw [Below.heap_setCell _ _ _ _ hne, Below.heap_setCell _ _ _ _ hne, Below.heap_setCell _ _ _ _ hne, Below.heap_setCell _ _ _ _ hne, Below.heap_setCell _ _ _ _ hne, Below.heap_setCell _ _ _ _ hne]
    obtain ⟨W, hW⟩ : ∃ W, W = ((((((w9.setCell ⟨g, k * 3, none⟩ (.int .i64 yx)).setCell ⟨g, k * 3 + 1, none⟩ (.int .i64 yk)).setCell ⟨g, k * 3 + 2, none⟩ (.int .i64 yi)).setCell ⟨g, (k + 1) * 3, none⟩ (.int .i64 xx)).setCell ⟨g, (k + 1) * 3 + 1, none⟩ (.int .i64 xk)).setCell ⟨g, (k + 1) * 3 + 2, none⟩ (.int .i64 xi)).drew := ⟨_, rfl⟩
    have AW : Hid (ArrAt W p #[.int .i64 xx, .int .i64 xk, .int .i64 xi] ∧ ArrAt W q #[.int .i64 yx, .int .i64 yk, .int .i64 yi] ∧ Below w.heap.size w W) := by
      rw [← hW] at keepB
      refine ⟨A9.out.1.keep (keepB _ np), A9.out.2.1.keep (keepB _ nq), ?_⟩
      rw [hW]
      exact ((((((A9.out.2.2.setCell (p := ⟨g, k * 3, none⟩) gw _).setCell (p := ⟨g, k * 3 + 1, none⟩) gw _).setCell (p := ⟨g, k * 3 + 2, none⟩) gw _).setCell (p := ⟨g, (k + 1) * 3, none⟩) gw _).setCell (p := ⟨g, (k + 1) * 3 + 1, none⟩) gw _).setCell (p := ⟨g, (k + 1) * 3 + 2, none⟩) gw _).drew
    have PW : Hid (OpAt W (some ⟨g, 0, none⟩) (Rn.swp X k ⟨xx, xk, xi⟩ ⟨yx, yk, yi⟩)) := by
      show OpAt _ _ _
      rw [hW]; exact (own_op O11.out).drew
    have hne : xx ≠ yx := HN.out
    have HL : Hid (likeB X (Rn.swp X k ⟨xx, xk, xi⟩ ⟨yx, yk, yi⟩) = !Rn.clash ⟨xx, xk, xi⟩ ⟨yx, yk, yi⟩ ∧ likeE X (Rn.swp X k ⟨xx, xk, xi⟩ ⟨yx, yk, yi⟩) = 0) := by
      have c2 := Rn.swp_check HV.out HX.out HY.out hne
      unfold likeB likeE
      rw [if_pos HV.out, if_pos HV.out, if_pos c2]
      exact ⟨Rn.swp_like HV.out HX.out HY.out hne, c2⟩
    have KL := hid fun W h1 h2 => like_any W (some ⟨b, o, none⟩) (some ⟨g, 0, none⟩) c cg X (Rn.swp X k ⟨xx, xk, xi⟩ ⟨yx, yk, yi⟩) h1 h2 (by omega) (by rw [Rn.swp_len]; omega) hcap
    rw [HL.out.1, HL.out.2, Rn.swp_len] at KL
    have HCl := hid (Rn.clash_sum (Rn.good_at HV.out HX.out) (Rn.good_at HV.out HY.out) hne)
    have gx := Rn.good_at HV.out HX.out
    have gy := Rn.good_at HV.out HY.out
    have q1 := gx.k0
    have q2 := gx.k1
    have q3 := gy.k0
    have q4 := gy.k1
    obtain ⟨C, hC⟩ : ∃ C, C = Rn.clash ⟨xx, xk, xi⟩ ⟨yx, yk, yi⟩ := ⟨_, rfl⟩
    obtain ⟨M, hM⟩ : ∃ M, M = Rn.swp X k ⟨xx, xk, xi⟩ ⟨yx, yk, yi⟩ := ⟨_, rfl⟩
    rw [← hC] at KL HCl
    rw [← hM] at KL PW
    simp only at q1 q2 q3 q4 HCl
    clear hC hM HL O9 O11 keepB A9 gx gy hne HX HY gw gB hcg
    go_wp2_with fail
    go_region
    rw [← hW]
    clear hW a1 a2 a3 b1 b2 b3 t1 t2 t3 t4 t5 t6 t7 t8
    have a1 := AW.out.1.cell (j := 1) (v := .int .i64 xk) rfl
    have a2 := AW.out.1.cell (j := 2) (v := .int .i64 xi) rfl
    have b1 := AW.out.2.1.cell (j := 1) (v := .int .i64 yk) rfl
    have b2 := AW.out.2.1.cell (j := 2) (v := .int .i64 yi) rfl
    go_upto_region 16 with fail
    go_cut [15] from 85 to 107 (fun c wx => c = .bool C ∧ wx = W)
    case first =>
      by_cases c1 : xk ≤ 2
      rotate_left
      · have HF : Hid (C = false) := by show _ = _; rw [HCl.out, decide_eq_false c1]; rfl
        go_wp2_with fail
        go_meet
        exact ⟨by rw [HF.out], rfl⟩
      by_cases c2 : yk ≤ 2
      rotate_left
      · have HF : Hid (C = false) := by show _ = _; rw [HCl.out, decide_eq_false c2]; simp
        go_wp2_with fail
        go_meet
        exact ⟨by rw [HF.out], rfl⟩
      by_cases c3 : xi = yi
      rotate_left
      · have HF : Hid (C = false) := by show _ = _; rw [HCl.out, decide_eq_false c3]; simp
        have c3B : (xi == yi) = false := by simpa using c3
        clear c3
        go_wp2_with fail
        go_meet
        exact ⟨by rw [HF.out], rfl⟩
      have c3B : (xi == yi) = true := by simpa using c3
      by_cases c4 : 2 < xk + yk
      · have HF : Hid (C = true) := by show _ = _; rw [HCl.out, decide_eq_true c1, decide_eq_true c2, decide_eq_true c3, decide_eq_true c4]; rfl
        clear c3
        go_wp2_with fail
        go_meet
        exact ⟨by rw [HF.out], rfl⟩
      · have HF : Hid (C = false) := by show _ = _; rw [HCl.out, decide_eq_false c4]; simp
        clear c3
        go_wp2_with fail
        go_meet
        exact ⟨by rw [HF.out], rfl⟩
    case rest =>
      obtain ⟨rfl, rfl⟩ := hcut
      clear HCl a1 a2 b1 b2
      go_wp2_with fail
      refine (KL.out _ (H.out.below AW.out.2.2) PW.out).mono ?_
      rintro r w10 ⟨rfl, hb10⟩
      have B10 := hid (below_tr AW.out.2.2 hb10)
      clear hb10 KL PW AW
      cases C with
      | true =>
        go_wp2_with fail
        go_ret
        exact ⟨rfl, B10.out⟩
      | false =>
        go_wp2_with fail
        go_ret
        exact ⟨rfl, B10.out⟩
end Go.Proofs.Ytlhkkhojfndoiai.PRun
