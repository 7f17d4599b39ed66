/- run.checkOp, hasItem, clash, walked: they answer what the plain functions say, and nothing that was there has turned. No conditions. -/
import Derived.Test.YtlalpahfoafhoabRunEnds
namespace Go.Proofs.Ytlalpahfoafhoab.PRun
open Go Go.RowKit PPool PGraph
set_option maxRecDepth 100000

def opE (E : Nat → Int) (o : Rn.Op) : Int := if Rn.ok1 o ≠ 0 then Rn.ok1 o else if E o.x.toNat ≠ 0 then 4 else 0
theorem opE_ends (p : List Rn.Op) (o : Rn.Op) : opE (Rn.ends p) o = Rn.opErr p o := rfl
theorem ok1_arg {o : Rn.Op} (h : o.x < 0 ∨ 11 < o.x ∨ o.i < 0 ∨ 19 < o.i) : Rn.ok1 o = 1 := by unfold Rn.ok1; rw [if_pos h]
theorem ok1_form {o : Rn.Op} (h : ¬ (o.x < 0 ∨ 11 < o.x ∨ o.i < 0 ∨ 19 < o.i)) (h2 : o.k < 1 ∨ 4 < o.k ∨ (2 < o.k ∧ o.i ≠ 0)) : Rn.ok1 o = 4 := by unfold Rn.ok1; rw [if_neg h, if_pos h2]
theorem ok1_ok {o : Rn.Op} (h : ¬ (o.x < 0 ∨ 11 < o.x ∨ o.i < 0 ∨ 19 < o.i)) (h2 : ¬ (o.k < 1 ∨ 4 < o.k ∨ (2 < o.k ∧ o.i ≠ 0))) : Rn.ok1 o = 0 := by unfold Rn.ok1; rw [if_neg h, if_neg h2]
theorem opE_arg {E : Nat → Int} {o : Rn.Op} (h : o.x < 0 ∨ 11 < o.x ∨ o.i < 0 ∨ 19 < o.i) : opE E o = 1 := by unfold opE; rw [ok1_arg h]; rfl
theorem opE_form {E : Nat → Int} {o : Rn.Op} (h : ¬ (o.x < 0 ∨ 11 < o.x ∨ o.i < 0 ∨ 19 < o.i)) (h2 : o.k < 1 ∨ 4 < o.k ∨ (2 < o.k ∧ o.i ≠ 0)) : opE E o = 4 := by unfold opE; rw [ok1_form h h2]; rfl
theorem opE_ok {E : Nat → Int} {o : Rn.Op} (h : ¬ (o.x < 0 ∨ 11 < o.x ∨ o.i < 0 ∨ 19 < o.i)) (h2 : ¬ (o.k < 1 ∨ 4 < o.k ∨ (2 < o.k ∧ o.i ≠ 0))) : opE E o = if E o.x.toNat = 0 then 0 else 4 := by
  unfold opE; rw [ok1_ok h h2]
  by_cases he : E o.x.toNat = 0
  · rw [if_neg (by simp), if_neg (by simpa using he), if_pos he]
  · rw [if_neg (by simp), if_pos he, if_neg he]
theorem bx2 (w : World) (a b : Obj) : Below w.heap.size w ((w.alloc a).alloc b) := below_tr (bx _ _) (bx _ _)

set_option maxHeartbeats 2000000 in
theorem checkOp_any (w : World) (E : Nat → Int) (o : Rn.Op) :
    Calls Try.prog 81 #[.agg #[.int .i64 o.x, .int .i64 o.k, .int .i64 o.i], .agg (eA E)] w fun e w' => e = .returned (.int .i64 (opE E o)) ∧ Below w.heap.size w w' := by
  obtain ⟨Y, hY⟩ : ∃ Y, Y = opE E o := ⟨_, rfl⟩
  rw [← hY]
  by_cases h1 : o.x < 0 ∨ 11 < o.x ∨ o.i < 0 ∨ 19 < o.i
  · have HY := hid (hY.trans (opE_arg h1))
    obtain ⟨x, k, i⟩ := o
    simp only at h1
    have hb := fun a b => hid (bx2 w a b)
    clear hY
    by_cases c1 : x < 0
    · clear h1
      go_enter Try.func81, Try.ntmps81
      go_wp2_with fail
      go_ret
      exact ⟨by rw [HY.out]; rfl, (hb _ _).out⟩
    · by_cases c2 : 12 ≤ x
      · clear h1
        go_enter Try.func81, Try.ntmps81
        go_wp2_with fail
        go_ret
        exact ⟨by rw [HY.out]; rfl, (hb _ _).out⟩
      · by_cases c3 : i < 0
        · clear h1
          go_enter Try.func81, Try.ntmps81
          go_wp2_with fail
          go_ret
          exact ⟨by rw [HY.out]; rfl, (hb _ _).out⟩
        · have c4 : 20 ≤ i := by omega
          clear h1
          go_enter Try.func81, Try.ntmps81
          go_wp2_with fail
          go_ret
          exact ⟨by rw [HY.out]; rfl, (hb _ _).out⟩
  · have x0 : ¬ o.x < 0 := by omega
    have x1 : ¬ 12 ≤ o.x := by omega
    have i0 : ¬ o.i < 0 := by omega
    have i1 : ¬ 20 ≤ o.i := by omega
    have hb := fun a b => hid (bx2 w a b)
    by_cases h2 : o.k < 1 ∨ 4 < o.k ∨ (2 < o.k ∧ o.i ≠ 0)
    · have HY := hid (hY.trans (opE_form h1 h2))
      obtain ⟨x, k, i⟩ := o
      simp only at h2 x0 x1 i0 i1
      clear hY h1
      have k1 : (k == 1) = false := by simp; omega
      have k2 : (k == 2) = false := by simp; omega
      by_cases k3 : k = 3
      · have hi : (i == 0) = false := by simp; omega
        subst k3
        clear h2 k1 k2
        go_enter Try.func81, Try.ntmps81
        go_wp2_with fail
        go_ret
        exact ⟨by rw [HY.out]; rfl, (hb _ _).out⟩
      · by_cases k4 : k = 4
        · have hi : (i == 0) = false := by simp; omega
          subst k4
          clear h2 k1 k2 k3
          go_enter Try.func81, Try.ntmps81
          go_wp2_with fail
          go_ret
          exact ⟨by rw [HY.out]; rfl, (hb _ _).out⟩
        · have k3 : (k == 3) = false := by simp; omega
          have k4 : (k == 4) = false := by simp; omega
          clear h2
          go_enter Try.func81, Try.ntmps81
          go_wp2_with fail
          go_ret
          exact ⟨by rw [HY.out]; rfl, (hb _ _).out⟩
    · have HY0 := hid (hY.trans (opE_ok h1 h2))
      obtain ⟨x, k, i⟩ := o
      simp only at h2 x0 x1 i0 i1
      obtain ⟨t, rfl⟩ : ∃ t : Nat, x = (t : Int) := ⟨x.toNat, by omega⟩
      have ht : t < 12 := by omega
      have hat := eA_at E ht
      obtain ⟨d, hd⟩ : ∃ d, d = E t := ⟨_, rfl⟩
      rw [← hd] at hat
      have HY1 : Hid (Y = if d = 0 then 0 else 4) := by have := HY0.out; simp only [Int.toNat_natCast] at this; rw [hd]; exact this
      clear HY0 hY h1 hd ht
      have hk : k = 1 ∨ k = 2 ∨ ((k = 3 ∨ k = 4) ∧ i = 0) := by omega
      clear h2
      by_cases hd : d = 0
      · subst hd
        have HY := hid (show Y = 0 from HY1.out.trans (if_pos rfl))
        rcases hk with rfl | rfl | ⟨rfl | rfl, rfl⟩
        all_goals
          go_enter Try.func81, Try.ntmps81
          go_wp2_with fail
          go_ret
          exact ⟨by rw [HY.out]; rfl, (hb _ _).out⟩
      · have HY := hid (show Y = 4 from HY1.out.trans (if_neg hd))
        have hd0 : (d == 0) = false := by simpa using hd
        clear hd
        rcases hk with rfl | rfl | ⟨rfl | rfl, rfl⟩
        all_goals
          go_enter Try.func81, Try.ntmps81
          go_wp2_with fail
          go_ret
          exact ⟨by rw [HY.out]; rfl, (hb _ _).out⟩
theorem item_any (w : World) (o : Rn.Op) :
    Calls Try.prog 119 #[.agg #[.int .i64 o.x, .int .i64 o.k, .int .i64 o.i]] w fun e w' => e = .returned (.bool (Rn.item o)) ∧ Below w.heap.size w w' := by
  obtain ⟨Y, hY⟩ : ∃ Y, Y = Rn.item o := ⟨_, rfl⟩
  rw [← hY]
  obtain ⟨x, k, i⟩ := o
  have hb := fun a => hid (bx w a)
  by_cases k1 : k = 1
  · have HY : Hid (Y = true) := hY.trans (by unfold Rn.item; simp [k1])
    subst k1
    clear hY
    go_enter Try.func119, Try.ntmps119
    go_wp2_with fail
    go_ret
    exact ⟨by rw [HY.out]; rfl, (hb _).out⟩
  · by_cases k2 : k = 2
    · have HY : Hid (Y = true) := hY.trans (by unfold Rn.item; simp [k2])
      subst k2
      clear hY k1
      go_enter Try.func119, Try.ntmps119
      go_wp2_with fail
      go_ret
      exact ⟨by rw [HY.out]; rfl, (hb _).out⟩
    · have HY : Hid (Y = false) := hY.trans (by unfold Rn.item; simp [k1, k2])
      have k1 : (k == 1) = false := by simpa using k1
      have k2 : (k == 2) = false := by simpa using k2
      clear hY
      go_enter Try.func119, Try.ntmps119
      go_wp2_with fail
      go_ret
      exact ⟨by rw [HY.out]; rfl, (hb _).out⟩
end Go.Proofs.Ytlalpahfoafhoab.PRun
