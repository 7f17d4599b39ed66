/- What Best hands to keep, and Best, walked. Conditions: lengths that an int holds; the refs' slice has no less capacity than length. -/
import Derived.Test.YtlcpioeobnjcdaaPoolRules
namespace Go.Proofs.Ytlcpioeobnjcdaa.PPool
open Go Go.RowKit
set_option maxRecDepth 100000

/-- What lies behind the first k. -/
theorem slice_rest (W : World) (a : Option Addr) (c : Nat) (X : List Int) (h : IntsAt W a X) (t : Nat) (ht : t < X.length) (hc : X.length ≤ c) :
    ∃ a2 c2, (∀ W', (Instr.slice 55 (.slice a X.length c) (some (.int .i64 ((t : Int) + 1))) none none).run Try.prog W' = .ok (.slice a2 (X.drop (t + 1)).length c2) W') ∧ IntsAt W a2 (X.drop (t + 1)) := by
  obtain ⟨x, hx⟩ : ∃ x, X[t]? = some x := ⟨_, List.getElem?_eq_getElem ht⟩
  obtain ⟨b, o, rfl, _⟩ := h t x hx
  refine ⟨_, _, fun W' => by have := slice_behind W' b o X.length c (t + 1) (by omega); rw [List.length_drop]; simpa using this, ?_⟩
  by_cases e : c = t + 1
  · rw [List.drop_of_length_le (by omega)]
    exact RowAt.nil _ _
  · rw [if_neg e]
    exact h.drop (t + 1)
set_option maxHeartbeats 400000 in
theorem far_any (W : World) (base g c : Nat) (P : List Int) (t : Nat) (rb : Nat) (a : Option Addr) (n' : Nat) (refs : List Int) (h : OwnInts W base (.slice (some ⟨g, 0, none⟩) P.length c) P) (hb : W.cell? ⟨rb, 0, none⟩ = some (.slice a refs.length n')) (hr : IntsAt W a refs) (hn : refs.length ≤ n') (ht : t < refs.length)
    (hP : 0 < P.length) (hP2 : P.length ≤ 50) (hr2 : refs.length ≤ 2000) :
    Calls Try.prog 113 #[.slice (some ⟨g, 0, none⟩) P.length c, .int .i64 (t : Int), .pointer (some ⟨rb, 0, none⟩)] W fun e W' => e = .returned (.int .i64 ((P.length - 1 : Nat) : Int)) ∧ OwnInts W' base (.slice (some ⟨g, 0, none⟩) P.length c) (Pl.behind P (Pl.fm P (refs.drop (t + 1)))) ∧ Goes (fun b => b = g) W W' (fun b => b = g) := by
  obtain ⟨a2, c2, hv, hD⟩ := slice_rest W a n' refs hr t ht hn
  have hfm := (Pl.fm_is (P := P) (refs.drop (t + 1)) (fun e => by subst e; simp at hP)).lt
  have hDl : (refs.drop (t + 1)).length ≤ 2000 := by rw [List.length_drop]; omega
  obtain ⟨D, hDD⟩ : ∃ D, D = refs.drop (t + 1) := ⟨_, rfl⟩
  rw [← hDD] at hv hD hfm hDl ⊢
  obtain ⟨aP, cP, eP, iP, _⟩ := h.at_
  injection eP with e1 e2 e3
  subst e1; subst e3
  clear e2
  have HL := hid (last_any W (some ⟨g, 0, none⟩) a2 c c2 P D iP hD hP hP2 hDl)
  have HO := hid h
  have t0 : (0 : Int) ≤ (t : Int) := by omega
  have t1 : (t : Int) ≤ 2000 := by omega
  obtain ⟨F, hF⟩ : ∃ F, F = Pl.fm P D := ⟨_, rfl⟩
  rw [← hF] at HL hfm ⊢
  clear h hr hD iP hDD hF
  go_enter Try.func113, Try.ntmps113
  go_wp2_with fail
  refine (HL.out).mono ?_
  rintro r w1 ⟨rfl, hb1⟩
  have HM := hid (move_any w1 base g c P F (HO.out.below hb1) hfm (by omega))
  have B1 := hid hb1
  clear hb1
  go_wp2_with fail
  refine (HM.out).mono ?_
  rintro r w2 ⟨rfl, q1, q2⟩
  have Q1 := hid q1
  have Q2 := hid ((goes_nil (co := fun b => b = g) B1.out).trans q2)
  clear q1 q2
  go_wp2_with fail
  go_ret
  exact ⟨rfl, Q1.out, Q2.out⟩
theorem best_does (k : Nat) (hk1 : 1 ≤ k) (hk2 : k ≤ 50) (refs : List Int) (w : World) (rb : Nat) (a : Option Addr) (c : Nat) (hb : w.cell? ⟨rb, 0, none⟩ = some (.slice a refs.length c)) (hr : IntsAt w a refs) (hc : refs.length ≤ c) (hn : refs.length ≤ 2000) :
    Does Pl.bestR k refs w (fun _ => False) (fun _ _ => True) 110 113 #[] #[.pointer (some ⟨rb, 0, none⟩)] := by
  refine ⟨fun _ _ => rfl, fun _ _ => rfl, fun _ h => h.elim, fun _ _ _ _ _ => trivial, fun W s P g c j _ _ h _ _ => ?_, fun W s P g c' t _ hg h hP ht => ?_⟩
  · rw [Array.append_empty]
    refine (leave_any W _ _).mono ?_
    rintro e W' ⟨rfl, rfl⟩
    exact ⟨rfl, trivial, h, Goes.refl _ _⟩
  · have hlt : rb < w.heap.size := World.block_lt_of_cell? w _ hb
    refine (far_any W _ g c' P t rb a c refs h ((World.cell?_of_block (a := ⟨rb, 0, none⟩) (hg.block rb hlt (fun e => e))).trans hb) (hr.goes hg (fun _ _ _ e => e)) hc ht (by omega) (by omega) hn).mono ?_
    rintro e W' ⟨rfl, q1, q2⟩
    exact ⟨rfl, trivial, q1, goes_or q2, by show P.length - 1 < P.length; omega⟩

set_option maxHeartbeats 400000 in
theorem best_any (w : World) (size : Int) (a : Option Addr) (c : Nat) (refs : List Int) (h : IntsAt w a refs) (hcap : refs.length ≤ c) :
    Calls Try.prog 65 #[.int .i64 size, .slice a refs.length c] w fun e w' => Ans w w' e (chk size refs.length) (out Pl.bestR () size refs) := by
  have hmf : ∀ (fn : Fn) (first cap : Array Value) (w : World), (Instr.makeFunc fn first cap).run Try.prog w = .ok (.func fn first cap) w := fun _ _ _ _ => rfl
  have hbx : ∀ T, (w.alloc (.cells #[.slice a refs.length c] T)).cell? ⟨w.heap.size, 0, none⟩ = some (.slice a refs.length c) := fun T => by rw [cell_of_row _ _ _ _ _ _ (heap_alloc_new w _)]; rfl
  by_cases hc : chk size refs.length = 0
  · obtain ⟨h1, h2, h3, h4⟩ := chk_zero hc
    have HK := hid (keep_ok Pl.bestR size.toNat refs (w.alloc (.cells #[.slice a refs.length c] 55)) _ _ _ _ _ _ (best_does size.toNat h1 h2 refs _ w.heap.size a c (hbx _) (h.below (bx _ _)) hcap h4) () trivial a c (h.below (bx _ _)) (fun _ _ _ e => e) h1 h2 h4)
    rw [h3] at HK
    have HC := hid hc
    clear h h1 h2 h3 h4 hc
    go_enter Try.func65, Try.ntmps65
    go_wp2_with fail
    refine (HK.out).mono ?_
    rintro r w1 ⟨pv, rfl, q1, q2, q3⟩
    have hA : Hid (∀ e, e = Ending.returned (.tuple #[.slice (some ⟨(w.alloc (.cells #[.slice a refs.length c] 55)).heap.size, 0, none⟩) refs.length refs.length, pv, .int .i64 0]) → Ans w w1 e (chk size refs.length) (out Pl.bestR () size refs)) := fun e he => by rw [he]; exact Ans.good _ _ HC.out q1 q2 (below_tr (bx _ _) (q3.below (Nat.le_refl _) (fun _ e => e.elim)))
    obtain ⟨pa, pc, rfl, _⟩ := q2.at_
    clear q1 q2 q3
    go_wp2_with fail
    go_ret3
    exact hA.out _ (by simp)
  · have HK := hid (keep_bad size (w.alloc (.cells #[.slice a refs.length c] 55)) a refs.length c (.func (.func 110) #[] #[]) (.func (.func 113) #[] #[.pointer (some ⟨w.heap.size, 0, none⟩)]) hc)
    have hA : Hid (∀ e, e = Ending.returned (.tuple #[.slice none 0 0, .slice none 0 0, .int .i64 (chk size refs.length)]) → Ans w (w.alloc (.cells #[.slice a refs.length c] 55)) e (chk size refs.length) (out Pl.bestR () size refs)) := fun e he => by rw [he]; exact Ans.bad _ _ hc (bx _ _)
    clear h hc
    go_enter Try.func65, Try.ntmps65
    go_wp2_with fail
    refine (HK.out).mono ?_
    rintro r w1 ⟨rfl, rfl⟩
    go_wp2_with fail
    go_ret3
    exact hA.out _ rfl

end Go.Proofs.Ytlcpioeobnjcdaa.PPool
