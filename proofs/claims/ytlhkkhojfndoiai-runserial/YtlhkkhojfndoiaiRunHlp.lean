/- Helpers of the statements, walked: slices.Clone, Index, Contains at operations; quirref.Own; quirkeep.ofCommitted, inTurn; each answers what the plain words say, and nothing that was there has turned. Conditions: how many operations there are. -/
import Derived.Test.YtlhkkhojfndoiaiRunOp
import Derived.Test.YtlhkkhojfndoiaiRunSer
import Derived.Test.YtlhkkhojfndoiaiRunPin
import Derived.Deep.QuietTactic
namespace Go.Proofs.Ytlhkkhojfndoiai.PRun
open Go Go.RowKit PPool PGraph
set_option maxRecDepth 100000

theorem OpAt.flat {w : World} {b o : Nat} {X : List Rn.Op} (h : OpAt w (some ⟨b, o, none⟩) X) : ∀ j u, (X.flatMap so)[j]? = some u → w.cell? ((⟨b, o, none⟩ : Addr).add j) = some u := by
  intro j u hj
  have hjl := (List.getElem?_eq_some_iff.1 hj).1
  rw [op_len] at hjl
  obtain ⟨x, hx⟩ : ∃ x, X[j / 3]? = some x := ⟨_, List.getElem?_eq_getElem (by omega)⟩
  obtain ⟨b', o', e, h0, h1, h2⟩ := h _ x hx
  injection e with e
  injection e with e1 e2
  subst e1; subst e2
  rw [Addr.add_mid]
  have at_ : ∀ r v, (so x)[r]? = some v → j % 3 = r → u = v := fun r v hv hr => by
    have := flat_at (enc := so) (c := 3) X (fun x _ => so_len x) (j / 3) x hx r v hv
    rw [show j / 3 * 3 + r = j by omega, hj] at this
    exact Option.some.inj this
  have hm : j % 3 = 0 ∨ j % 3 = 1 ∨ j % 3 = 2 := by omega
  rcases hm with hm | hm | hm
  · rw [at_ 0 _ rfl hm, show o + j = o + j / 3 * 3 by omega]; exact h0
  · rw [at_ 1 _ rfl hm, show o + j = o + j / 3 * 3 + 1 by omega]; exact h1
  · rw [at_ 2 _ rfl hm, show o + j = o + j / 3 * 3 + 2 by omega]; exact h2

set_option maxHeartbeats 1000000 in
theorem clone_any (w : World) (a : Option Addr) (c : Nat) (X : List Rn.Op) (h : OpAt w a X) (hn : X.length * 24 ≤ 140737488355328) :
    Calls Try.prog 16 #[.slice a X.length c] w fun e w' => ∃ v, e = .returned v ∧ OwnOp w' w.heap.size v X ∧ Below w.heap.size w w' := by
  obtain ⟨i0, hi, hz0, hz1, hz2⟩ := info_parts op_info
  have q22 : ∀ (w : World) (a : Option Addr) (n c n' c' : Nat), (binOp .eql 22 (.slice a n c) (.slice none n' c')).run Try.prog w = .ok (.bool a.isNone) w := fun w a n c n' c' => Lib.run_eql_slice_nil w _ _ a n c n' c' Try.underlying22
  cases a with
  | none =>
    have hX : X = [] := by
      cases X with
      | nil => rfl
      | cons x X => obtain ⟨b, o, e, _⟩ := h 0 x rfl; cases e
    subst hX
    clear h hi hz0 hz1 hz2
    go_enter Try.func16, Try.ntmps16
    go_wp2_with fail
    go_ret
    exact ⟨_, rfl, OwnOp.nil _ _, Below.refl _ _⟩
  | some q =>
    have H := hid h
    clear h
    go_enter Try.func16, Try.ntmps16
    go_wp2_with (at_builtin; refine wpList_append_own _ rfl _ _ 22 rfl w.heap.size 25 i0 (.agg #[.int .i64 0, .int .i64 0, .int .i64 0]) 3 24 Try.underlying22 hi hz0 hz1 hz2 rfl (by decide) _ _ _ rfl (World.ownsRow_made w #[] 0 (Nat.le_refl _) (Nat.zero_le _) rfl) q X.length c (X.flatMap so) rfl ?qc1 ?qc2 ?qc3 ?qc4 ?qc5 ?qc6 ?_)
    case qc1 => exact op_len X
    case qc2 =>
      intro j u hj
      have hX : 0 < X.length := by have := (List.getElem?_eq_some_iff.1 hj).1; rw [op_len] at this; omega
      obtain ⟨x, hx⟩ : ∃ x, X[0]? = some x := ⟨_, List.getElem?_eq_getElem hX⟩
      obtain ⟨b, o, e, _⟩ := H.out _ _ hx
      cases e
      exact ((H.out.below (bx w _)).flat) j u hj
    case qc3 => exact op_one X
    case qc4 => unfold maxLen; omega
    case qc5 => omega
    case qc6 => simp
    intro v' w1 hown hgrow hnil
    have HO := hid hown
    have HB : Hid (Below w.heap.size w w1) := ((Below.refl _ w).alloc (Nat.le_refl _) _).grown hgrow (by simp) (by intro k hk; simp [Value.ownBlock] at hk; omega)
    clear hown hgrow hnil
    go_wp2
    go_ret
    refine ⟨v', rfl, ?_, HB.out⟩
    have := HO.out
    simpa [OwnOp] using this

theorem not_take {X : List Rn.Op} {y x : Rn.Op} {k : Nat} (h : y ∉ X.take k) (hx : X[k]? = some x) (hne : ¬ y = x) : y ∉ X.take (k + 1) := by
  rw [Rn.take_snoc hx, List.mem_append, List.mem_singleton]
  rintro (h' | h')
  · exact h h'
  · exact hne h'
set_option maxHeartbeats 2000000 in
theorem index_any (w : World) (a : Option Addr) (c : Nat) (X : List Rn.Op) (y : Rn.Op) (h : OpAt w a X) (hl : X.length ≤ 9223372036854775807) :
    Calls Try.prog 35 #[.slice a X.length c, .agg #[.int .i64 y.x, .int .i64 y.k, .int .i64 y.i]] w fun e w' => ∃ i : Int, e = .returned (.int .i64 i) ∧ decide (0 ≤ i) = decide (y ∈ X) ∧ Below w.heap.size w w' := by
  have H := hid h
  clear h
  have A0 : ∀ T, Hid (ArrAt (w.alloc (.cells #[.int .i64 y.x, .int .i64 y.k, .int .i64 y.i] T)) w.heap.size #[.int .i64 y.x, .int .i64 y.k, .int .i64 y.i] ∧ Below w.heap.size w (w.alloc (.cells #[.int .i64 y.x, .int .i64 y.k, .int .i64 y.i] T))) := fun T => ⟨ArrAt.new w _ _, bx _ _⟩
  go_enter Try.func35, Try.ntmps35
  go_wp2_with fail
  go_loopw [5, 8] (fun _ i wr => ∃ k : Nat, k ≤ X.length ∧ i = .int .i64 (k : Int) ∧ Hid (y ∉ X.take k) ∧ Hid (ArrAt wr w.heap.size #[.int .i64 y.x, .int .i64 y.k, .int .i64 y.i] ∧ Below w.heap.size w wr)) (fun _ i _ => X.length - (intOf i).toNat)
  case atStart => exact ⟨0, Nat.zero_le _, rfl, (by show _ ∉ _; simp), A0 _⟩
  case round =>
    clear A0
    obtain ⟨k, hk, rfl, hC, hA⟩ := hrel
    by_cases hlt : k < X.length
    · obtain ⟨x, hx⟩ : ∃ x, X[k]? = some x := ⟨_, List.getElem?_eq_getElem hlt⟩
      obtain ⟨b, o, rfl, d1, d2, d3⟩ := (H.out.below hA.out.2) k x hx
      have k0 : (0 : Int) ≤ (k : Int) := by omega
      have k1 : (k : Int) < (X.length : Int) := by omega
      have u0 := hA.out.1.cell (j := 0) (v := .int .i64 y.x) rfl
      have u1 := hA.out.1.cell (j := 1) (v := .int .i64 y.k) rfl
      have u2 := hA.out.1.cell (j := 2) (v := .int .i64 y.i) rfl
      have hcmp := op_eq y.x x.x y.k x.k y.i x.i
      rw [op_eqB y x] at hcmp
      by_cases hxy : y = x
      · have hd : decide (y = x) = true := decide_eq_true hxy
        rw [hd] at hcmp
        have HM : Hid (decide (y ∈ X) = true) := decide_eq_true (hxy ▸ List.mem_of_getElem? hx)
        have HB := hid hA.out.2
        clear hC hA hx hxy hd
        go_wp2_with fail
        go_quiet (fail)
        go_wp2_with fail
        go_ret
        exact ⟨_, rfl, by rw [HM.out]; simp, below_drewN HB.out _⟩
      · have hd : decide (y = x) = false := decide_eq_false hxy
        rw [hd] at hcmp
        have HC2 : Hid (y ∉ X.take (k + 1)) := not_take hC.out hx hxy
        clear hC hx hxy hd
        go_wp2_with fail
        go_quiet (fail)
        go_wp2_with fail
        go_roundw
        case rel => exact ⟨k + 1, by omega, by go_num, HC2, hA.out.1.below (below_drewN (Below.refl _ _) _), below_drewN hA.out.2 _⟩
        case measure => simp [intOf]; omega
    · obtain rfl : k = X.length := by omega
      have HM : Hid (decide (y ∈ X) = false) := decide_eq_false (by have := hC.out; rwa [List.take_length] at this)
      have j3 : decide ((X.length : Int) < (X.length : Int)) = false := by simp
      have HB := hid hA.out.2
      clear hC hA
      go_wp2_with fail
      go_ret
      exact ⟨_, rfl, by rw [HM.out]; rfl, HB.out⟩
theorem has_any (w : World) (a : Option Addr) (c : Nat) (X : List Rn.Op) (y : Rn.Op) (h : OpAt w a X) (hl : X.length ≤ 9223372036854775807) :
    Calls Try.prog 21 #[.slice a X.length c, .agg #[.int .i64 y.x, .int .i64 y.k, .int .i64 y.i]] w fun e w' => e = .returned (.bool (decide (y ∈ X))) ∧ Below w.heap.size w w' := by
  have HI := hid fun W h => index_any W a c X y h hl
  have H := hid h
  obtain ⟨yx, yk, yi⟩ := y
  obtain ⟨D, hD⟩ : ∃ D, D = decide (⟨yx, yk, yi⟩ ∈ X) := ⟨_, rfl⟩
  rw [← hD] at HI ⊢
  simp only at HI
  clear hD h
  go_enter Try.func21, Try.ntmps21
  go_wp2_with fail
  refine (HI.out _ (H.out.below (bx _ _))).mono ?_
  rintro r w1 ⟨i, rfl, hi, hb⟩
  have HD := hid hi
  have HB := hid (below_tr (bx _ _) hb)
  clear hi hb
  go_wp2_with fail
  go_ret
  exact ⟨by rw [← HD.out]; rfl, HB.out⟩
end Go.Proofs.Ytlhkkhojfndoiai.PRun
