/- quirref.clash, has, RunErr, those, walked: each answers what the plain words say, and nothing that was there has turned. Conditions: the operations lie where their slice says; clash: they are right ones. -/
import Derived.Test.YtlalpahfoafhoabRunHas
import Derived.Test.YtlalpahfoafhoabRunSrl
import Derived.Test.YtlalpahfoafhoabRunCk
namespace Go.Proofs.Ytlalpahfoafhoab.PRun
open Go Go.RowKit PPool PGraph
set_option maxRecDepth 100000

theorem clash_same {p q : Rn.Op} (h : p.x = q.x) : Rn.clash p q = false := by
  apply Bool.eq_false_iff.2
  intro hc
  exact Rn.clash_ne hc h
set_option maxHeartbeats 2000000 in
theorem rclash_any (w : World) (p q : Rn.Op) (gp : Rn.Good p) (gq : Rn.Good q) :
    Calls Try.prog 86 #[.agg #[.int .i64 p.x, .int .i64 p.k, .int .i64 p.i], .agg #[.int .i64 q.x, .int .i64 q.k, .int .i64 q.i]] w fun e w' => e = .returned (.bool (Rn.clash p q)) ∧ Below w.heap.size w w' := by
  obtain ⟨Y, hY⟩ : ∃ Y, Y = Rn.clash p q := ⟨_, rfl⟩
  rw [← hY]
  have hb0 := fun a b => hid (bx2 w a b)
  by_cases c1 : p.x = q.x
  · have HYf : Hid (Y = false) := hY.trans (clash_same c1)
    obtain ⟨px, pk, pi⟩ := p
    obtain ⟨qx, qk, qi⟩ := q
    simp only at c1
    subst c1
    clear hY
    go_enter Try.func86, Try.ntmps86
    go_wp2_with fail
    go_ret
    exact ⟨by rw [HYf.out]; rfl, (hb0 _ _).out⟩
  have HY := hid (hY.trans (Rn.clash_sum gp gq c1))
  have g1 := gp.k0
  have g2 := gp.k1
  have g3 := gq.k0
  have g4 := gq.k1
  obtain ⟨px, pk, pi⟩ := p
  obtain ⟨qx, qk, qi⟩ := q
  simp only at c1 HY g1 g2 g3 g4
  have c1n : (px != qx) = true := by simpa using c1
  clear hY c1 gp gq
  by_cases c2 : pi = qi
  rotate_left
  · have HYf : Hid (Y = false) := by show Y = false; rw [HY.out, decide_eq_false c2]; simp
    have c2B : (pi == qi) = false := by simpa using c2
    clear HY c2
    go_enter Try.func86, Try.ntmps86
    go_wp2_with fail
    go_ret
    exact ⟨by rw [HYf.out]; rfl, (hb0 _ _).out⟩
  subst c2
  by_cases c3 : pk ≤ 2
  rotate_left
  · have HYf : Hid (Y = false) := by show Y = false; rw [HY.out, decide_eq_false c3]; simp
    clear HY
    go_enter Try.func86, Try.ntmps86
    go_wp2_with fail
    go_ret
    exact ⟨by rw [HYf.out]; rfl, (hb0 _ _).out⟩
  by_cases c4 : qk ≤ 2
  rotate_left
  · have HYf : Hid (Y = false) := by show Y = false; rw [HY.out, decide_eq_false c4]; simp
    clear HY
    go_enter Try.func86, Try.ntmps86
    go_wp2_with fail
    go_ret
    exact ⟨by rw [HYf.out]; rfl, (hb0 _ _).out⟩
  by_cases c5 : 2 < pk + qk
  · have HYf : Hid (Y = true) := by show Y = true; rw [HY.out, decide_eq_true c3, decide_eq_true c4, decide_eq_true c5]; simp
    clear HY
    go_enter Try.func86, Try.ntmps86
    go_wp2_with fail
    go_ret
    exact ⟨by rw [HYf.out]; rfl, (hb0 _ _).out⟩
  · have HYf : Hid (Y = false) := by show Y = false; rw [HY.out, decide_eq_false c5]; simp
    clear HY
    go_enter Try.func86, Try.ntmps86
    go_wp2_with fail
    go_ret
    exact ⟨by rw [HYf.out]; rfl, (hb0 _ _).out⟩

/-- Has a transaction ended so? -/
theorem rhas_any (w : World) (a : Option Addr) (c : Nat) (X : List Rn.Op) (t k : Int) (h : OpAt w a X) (hl : X.length ≤ 9223372036854775807) :
    Calls Try.prog 85 #[.slice a X.length c, .int .i64 t, .int .i64 k] w fun e w' => e = .returned (.bool (decide ((⟨t, k, 0⟩ : Rn.Op) ∈ X))) ∧ Below w.heap.size w w' := by
  have KH := hid (has_any w a c X ⟨t, k, 0⟩ h hl)
  generalize decide ((⟨t, k, 0⟩ : Rn.Op) ∈ X) = D at *
  simp only at KH
  clear h
  go_enter Try.func85, Try.ntmps85
  go_wp2_with fail
  refine (KH.out).mono ?_
  rintro r w1 ⟨rfl, hb⟩
  have HB := hid hb
  clear hb
  go_wp2_with fail
  go_ret
  exact ⟨rfl, HB.out⟩
theorem mem_end {X : List Rn.Op} (h : Rn.check X = 0) {i t : Nat} (_ht : t < 12) {c : Nat} (hc : c = 3 ∨ c = 4) : decide ((⟨(t : Int), (c : Int), 0⟩ : Rn.Op) ∈ X.take i) = decide (Rn.ends (X.take i) t = c) := by
  apply Bool.eq_iff_iff.2
  simp only [decide_eq_true_eq]
  constructor
  · intro hm
    obtain ⟨j, hj⟩ := List.getElem?_of_mem hm
    rw [List.getElem?_take] at hj
    split at hj
    · rename_i hji
      have e1 : Rn.ends (X.take (j + 1)) t = c := by
        rw [Rn.take_snoc hj, Rn.ends_snoc]
        unfold Rn.fin
        rw [if_pos ⟨by show (c : Int) = 3 ∨ (c : Int) = 4; omega, rfl⟩]
      exact Rn.ends_more h (c := c) (i := j + 1) (j := i) (by omega) e1 (by omega)
    · cases hj
  · intro he
    obtain ⟨o, ho, h1, h2, _⟩ := Rn.ends_mem he (by omega)
    have g2 := Rn.good_mem h (List.mem_of_mem_take ho)
    have e : o = ⟨(t : Int), (c : Int), 0⟩ := by
      have hi := g2.ki (by omega)
      cases o
      simp only at h1 h2 hi
      simp only [Rn.Op.mk.injEq]
      omega
    rw [← e]; exact ho
theorem mem_all {X : List Rn.Op} (h : Rn.check X = 0) {t : Nat} (ht : t < 12) : decide ((⟨(t : Int), 3, 0⟩ : Rn.Op) ∈ X) = Rn.com X t := by
  have := mem_end h (i := X.length) ht (c := 3) (.inl rfl)
  rw [List.take_length] at this
  exact this

end Go.Proofs.Ytlalpahfoafhoab.PRun
