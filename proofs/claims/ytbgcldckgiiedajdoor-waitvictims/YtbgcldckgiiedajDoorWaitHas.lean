/- slices.Index, Contains at edges, walked: each answers what the plain words say, and nothing that was there has turned. Condition: how many edges there are. -/
import Derived.Test.YtbgcldckgiiedajDoorWaitNum
import Derived.Test.YtbgcldckgiiedajDoorGraphMem
import Derived.Deep.QuietTactic
import Derived.BigQuiet
namespace Go.Proofs.YtbgcldckgiiedajDoor.PWait
open Go Go.RowKit PPool PGraph
set_option maxRecDepth 100000
theorem ed_eq (u1 u2 t1 t2 : Int) (w : World) : (Op.equalIn 10000 28 (.agg #[.int .i64 u1, .int .i64 t1]) (.agg #[.int .i64 u2, .int .i64 t2])).run Tryd.prog w = .ok (u1 == u2 && t1 == t2) w := by
  have u3 := Tryd.underlying3
  have a3 := Tryd.isAgg3
  have z3 := Tryd.sizeOf3
  have hS : Tryd.prog.underlying 28 = some (.struct (Tryd.prog.fieldsOf 28)) := by kernel_rfl
  have hp : Tryd.prog.stoodInHeld 28 = false := by kernel_rfl
  rw [show (10000 : Nat) = 9999 + 1 from rfl, run_equalIn_agg w 9999 28 _ _ hS hp]
  simp only [Program.fieldsOf, Tryd.underlying28]
  go_simp
  by_cases h1 : u1 = u2 <;> by_cases h2 : t1 = t2 <;> simp [h1, h2]
theorem ed_eqB (x y : Gr.Ed) : (x.f == y.f && x.t == y.t) = decide (x = y) := by
  apply Bool.eq_iff_iff.2
  simp only [Bool.and_eq_true, beq_iff_eq, decide_eq_true_eq]
  cases x; cases y
  simp only [Gr.Ed.mk.injEq]

theorem not_take {X : List Gr.Ed} {y x : Gr.Ed} {k : Nat} (h : y ∉ X.take k) (hx : X[k]? = some x) (hne : ¬ y = x) : y ∉ X.take (k + 1) := by
  obtain ⟨h1, h2⟩ := List.getElem?_eq_some_iff.1 hx
  rw [List.take_succ_eq_append_getElem h1, h2, List.mem_append, List.mem_singleton]
  rintro (h' | h')
  · exact h h'
  · exact hne h'
set_option maxHeartbeats 2000000 in
theorem idxEd_any (w : World) (a : Option Addr) (c : Nat) (X : List Gr.Ed) (y : Gr.Ed) (h : PgAt w a X) (hl : X.length ≤ 9223372036854775807) :
    Calls Tryd.prog 43 #[.slice a X.length c, .agg #[.int .i64 y.f, .int .i64 y.t]] w fun e w' => ∃ i : Int, e = .returned (.int .i64 i) ∧ decide (0 ≤ i) = decide (y ∈ X) ∧ Below w.heap.size w w' := by
  have H := hid h
  clear h
  have A0 : ∀ T, Hid ((w.alloc (.cells #[.int .i64 y.f, .int .i64 y.t] T)).cell? ⟨w.heap.size, 0, none⟩ = some (.int .i64 y.f) ∧ (w.alloc (.cells #[.int .i64 y.f, .int .i64 y.t] T)).cell? ⟨w.heap.size, 1, none⟩ = some (.int .i64 y.t) ∧ Below w.heap.size w (w.alloc (.cells #[.int .i64 y.f, .int .i64 y.t] T))) := fun T => ⟨(box2 (Below.refl _ _)).1, (box2 (Below.refl _ _)).2, bx _ _⟩
  go_enter Tryd.func43, Tryd.ntmps43
  go_wp2_with fail
  go_loopw [5, 8] (fun _ i wr => ∃ k : Nat, k ≤ X.length ∧ i = .int .i64 (k : Int) ∧ Hid (y ∉ X.take k) ∧ Hid (wr.cell? ⟨w.heap.size, 0, none⟩ = some (.int .i64 y.f) ∧ wr.cell? ⟨w.heap.size, 1, none⟩ = some (.int .i64 y.t) ∧ Below w.heap.size w wr)) (fun _ i _ => X.length - (intOf i).toNat)
  case atStart => exact ⟨0, Nat.zero_le _, rfl, (by show _ ∉ _; simp), A0 _⟩
  case round =>
    clear A0
    obtain ⟨k, hk, rfl, hC, hA⟩ := hrel
    by_cases hlt : k < X.length
    · obtain ⟨x, hx⟩ : ∃ x, X[k]? = some x := ⟨_, List.getElem?_eq_getElem hlt⟩
      obtain ⟨b, o, rfl, d1, d2⟩ := (H.out.below hA.out.2.2) k x hx
      have k0 : (0 : Int) ≤ (k : Int) := by omega
      have k1 : (k : Int) < (X.length : Int) := by omega
      have u0 := hA.out.1
      have u1 := hA.out.2.1
      have hcmp := ed_eq y.f x.f y.t x.t
      rw [ed_eqB y x] at hcmp
      by_cases hxy : y = x
      · have hd : decide (y = x) = true := decide_eq_true hxy
        rw [hd] at hcmp
        have HM : Hid (decide (y ∈ X) = true) := decide_eq_true (hxy ▸ List.mem_of_getElem? hx)
        have HB := hid hA.out.2.2
        clear hC hA hx hxy hd
        go_wp2_with fail
        go_quiet (fail)
        go_wp2_with fail
        go_ret
        exact ⟨_, rfl, by rw [HM.out]; simp, below_drewN HB.out _⟩
      · have hd : decide (y = x) = false := decide_eq_false hxy
        rw [hd] at hcmp
        have HC2 : Hid (y ∉ X.take (k + 1)) := not_take hC.out hx hxy
        clear hC hx hxy hd
        go_wp2_with fail
        go_quiet (fail)
        go_wp2_with fail
        go_roundw
        case rel => exact ⟨k + 1, by omega, by go_num, HC2, keep1 (below_drewN (Below.refl _ _) _) hA.out.1, keep1 (below_drewN (Below.refl _ _) _) hA.out.2.1, below_drewN hA.out.2.2 _⟩
        case measure => simp [intOf]; omega
    · obtain rfl : k = X.length := by omega
      have HM : Hid (decide (y ∈ X) = false) := decide_eq_false (by have := hC.out; rwa [List.take_length] at this)
      have j3 : decide ((X.length : Int) < (X.length : Int)) = false := by simp
      have HB := hid hA.out.2.2
      clear hC hA
      go_wp2_with fail
      go_ret
      exact ⟨_, rfl, by rw [HM.out]; rfl, HB.out⟩
theorem hasEd_any (w : World) (a : Option Addr) (c : Nat) (X : List Gr.Ed) (y : Gr.Ed) (h : PgAt w a X) (hl : X.length ≤ 9223372036854775807) :
    Calls Tryd.prog 31 #[.slice a X.length c, .agg #[.int .i64 y.f, .int .i64 y.t]] w fun e w' => e = .returned (.bool (decide (y ∈ X))) ∧ Below w.heap.size w w' := by
  have HI := hid fun W h => idxEd_any W a c X y h hl
  have H := hid h
  obtain ⟨yf, yt⟩ := y
  obtain ⟨D, hD⟩ : ∃ D, D = decide (⟨yf, yt⟩ ∈ X) := ⟨_, rfl⟩
  rw [← hD] at HI ⊢
  simp only at HI
  clear hD h
  go_enter Tryd.func31, Tryd.ntmps31
  go_wp2_with fail
  refine (HI.out _ (H.out.below (bx _ _))).mono ?_
  rintro r w1 ⟨i, rfl, hi, hb⟩
  have HD := hid hi
  have HB := hid (below_tr (bx _ _) hb)
  clear hi hb
  go_wp2_with fail
  go_ret
  exact ⟨by rw [← HD.out]; rfl, HB.out⟩
end Go.Proofs.YtbgcldckgiiedajDoor.PWait
