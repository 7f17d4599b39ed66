/- slices.Index, Contains at operations, walked: each answers what the plain words say, and nothing that was there has turned. Condition: how many operations there are. -/
import Derived.Test.YtlalpahfoafhoabRunOps
import Derived.Deep.QuietTactic
import Derived.BigQuiet
namespace Go.Proofs.Ytlalpahfoafhoab.PRun
open Go Go.RowKit PPool PGraph
set_option maxRecDepth 100000
theorem op_eq (u1 u2 t1 t2 s1 s2 : Int) (w : World) : (Op.equalIn 10000 129 (.agg #[.int .i64 u1, .int .i64 t1, .int .i64 s1]) (.agg #[.int .i64 u2, .int .i64 t2, .int .i64 s2])).run Try.prog w = .ok (u1 == u2 && t1 == t2 && s1 == s2) w := by
  have u3 := Try.underlying3
  have a3 := Try.isAgg3
  have z3 := Try.sizeOf3
  have hS : Try.prog.underlying 129 = some (.struct (Try.prog.fieldsOf 129)) := by kernel_rfl
  have hp : Try.prog.stoodInHeld 129 = false := by kernel_rfl
  rw [show (10000 : Nat) = 9999 + 1 from rfl, run_equalIn_agg w 9999 129 _ _ hS hp]
  simp only [Program.fieldsOf, Try.underlying129]
  go_simp
  by_cases h1 : u1 = u2 <;> by_cases h2 : t1 = t2 <;> by_cases h3 : s1 = s2 <;> simp [h1, h2, h3]
theorem op_eqB (x y : Rn.Op) : (x.x == y.x && x.k == y.k && x.i == y.i) = decide (x = y) := by
  apply Bool.eq_iff_iff.2
  simp only [Bool.and_eq_true, beq_iff_eq, decide_eq_true_eq]
  cases x; cases y
  simp only [Rn.Op.mk.injEq]
  exact and_assoc

theorem not_take {X : List Rn.Op} {y x : Rn.Op} {k : Nat} (h : y ∉ X.take k) (hx : X[k]? = some x) (hne : ¬ y = x) : y ∉ X.take (k + 1) := by
  rw [Rn.take_snoc hx, List.mem_append, List.mem_singleton]
  rintro (h' | h')
  · exact h h'
  · exact hne h'
set_option maxHeartbeats 2000000 in
theorem index_any (w : World) (a : Option Addr) (c : Nat) (X : List Rn.Op) (y : Rn.Op) (h : OpAt w a X) (hl : X.length ≤ 9223372036854775807) :
    Calls Try.prog 142 #[.slice a X.length c, .agg #[.int .i64 y.x, .int .i64 y.k, .int .i64 y.i]] w fun e w' => ∃ i : Int, e = .returned (.int .i64 i) ∧ decide (0 ≤ i) = decide (y ∈ X) ∧ Below w.heap.size w w' := by
  have H := hid h
  clear h
  have A0 : ∀ T, Hid (ArrAt (w.alloc (.cells #[.int .i64 y.x, .int .i64 y.k, .int .i64 y.i] T)) w.heap.size #[.int .i64 y.x, .int .i64 y.k, .int .i64 y.i] ∧ Below w.heap.size w (w.alloc (.cells #[.int .i64 y.x, .int .i64 y.k, .int .i64 y.i] T))) := fun T => ⟨ArrAt.new w _ _, bx _ _⟩
  go_enter Try.func142, Try.ntmps142
  go_wp2_with fail
  go_loopw [5, 8] (fun _ i wr => ∃ k : Nat, k ≤ X.length ∧ i = .int .i64 (k : Int) ∧ Hid (y ∉ X.take k) ∧ Hid (ArrAt wr w.heap.size #[.int .i64 y.x, .int .i64 y.k, .int .i64 y.i] ∧ Below w.heap.size w wr)) (fun _ i _ => X.length - (intOf i).toNat)
  case atStart => exact ⟨0, Nat.zero_le _, rfl, (by show _ ∉ _; simp), A0 _⟩
  case round =>
    clear A0
    obtain ⟨k, hk, rfl, hC, hA⟩ := hrel
    by_cases hlt : k < X.length
    · obtain ⟨x, hx⟩ : ∃ x, X[k]? = some x := ⟨_, List.getElem?_eq_getElem hlt⟩
      obtain ⟨b, o, rfl, d1, d2, d3⟩ := (H.out.below hA.out.2) k x hx
      have k0 : (0 : Int) ≤ (k : Int) := by omega
      have k1 : (k : Int) < (X.length : Int) := by omega
      have u0 := hA.out.1.cell (j := 0) (v := .int .i64 y.x) rfl
      have u1 := hA.out.1.cell (j := 1) (v := .int .i64 y.k) rfl
      have u2 := hA.out.1.cell (j := 2) (v := .int .i64 y.i) rfl
      have hcmp := op_eq y.x x.x y.k x.k y.i x.i
      rw [op_eqB y x] at hcmp
      by_cases hxy : y = x
      · have hd : decide (y = x) = true := decide_eq_true hxy
        rw [hd] at hcmp
        have HM : Hid (decide (y ∈ X) = true) := decide_eq_true (hxy ▸ List.mem_of_getElem? hx)
        have HB := hid hA.out.2
        clear hC hA hx hxy hd
        go_wp2_with fail
        go_quiet (fail)
        go_wp2_with fail
        go_ret
        exact ⟨_, rfl, by rw [HM.out]; simp, below_drewN HB.out _⟩
      · have hd : decide (y = x) = false := decide_eq_false hxy
        rw [hd] at hcmp
        have HC2 : Hid (y ∉ X.take (k + 1)) := not_take hC.out hx hxy
        clear hC hx hxy hd
        go_wp2_with fail
        go_quiet (fail)
        go_wp2_with fail
        go_roundw
        case rel => exact ⟨k + 1, by omega, by go_num, HC2, hA.out.1.below (below_drewN (Below.refl _ _) _), below_drewN hA.out.2 _⟩
        case measure => simp [intOf]; omega
    · obtain rfl : k = X.length := by omega
      have HM : Hid (decide (y ∈ X) = false) := decide_eq_false (by have := hC.out; rwa [List.take_length] at this)
      have j3 : decide ((X.length : Int) < (X.length : Int)) = false := by simp
      have HB := hid hA.out.2
      clear hC hA
      go_wp2_with fail
      go_ret
      exact ⟨_, rfl, by rw [HM.out]; rfl, HB.out⟩
theorem has_any (w : World) (a : Option Addr) (c : Nat) (X : List Rn.Op) (y : Rn.Op) (h : OpAt w a X) (hl : X.length ≤ 9223372036854775807) :
    Calls Try.prog 121 #[.slice a X.length c, .agg #[.int .i64 y.x, .int .i64 y.k, .int .i64 y.i]] w fun e w' => e = .returned (.bool (decide (y ∈ X))) ∧ Below w.heap.size w w' := by
  have HI := hid fun W h => index_any W a c X y h hl
  have H := hid h
  obtain ⟨yx, yk, yi⟩ := y
  obtain ⟨D, hD⟩ : ∃ D, D = decide (⟨yx, yk, yi⟩ ∈ X) := ⟨_, rfl⟩
  rw [← hD] at HI ⊢
  simp only at HI
  clear hD h
  go_enter Try.func121, Try.ntmps121
  go_wp2_with fail
  refine (HI.out _ (H.out.below (bx _ _))).mono ?_
  rintro r w1 ⟨i, rfl, hi, hb⟩
  have HD := hid hi
  have HB := hid (below_tr (bx _ _) hb)
  clear hi hb
  go_wp2_with fail
  go_ret
  exact ⟨by rw [← HD.out]; rfl, HB.out⟩
end Go.Proofs.Ytlalpahfoafhoab.PRun
