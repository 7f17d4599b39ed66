/- Helpers of the statements, walked: slices.Clone at operations; it answers what the plain words say, and nothing that was there has turned. Conditions: how many operations there are. -/
import Derived.Test.YtlalpahfoafhoaiRunOp
import Derived.Test.YtlalpahfoafhoaiRunSer
import Derived.Test.YtlalpahfoafhoaiRunPin
import Derived.Deep.QuietTactic
namespace Go.Proofs.Ytlalpahfoafhoai.PRun
open Go Go.RowKit PPool PGraph
set_option maxRecDepth 100000

theorem OpAt.flat {w : World} {b o : Nat} {X : List Rn.Op} (h : OpAt w (some ⟨b, o, none⟩) X) : ∀ j u, (X.flatMap so)[j]? = some u → w.cell? ((⟨b, o, none⟩ : Addr).add j) = some u := by
  intro j u hj
  have hjl := (List.getElem?_eq_some_iff.1 hj).1
  rw [op_len] at hjl
  obtain ⟨x, hx⟩ : ∃ x, X[j / 3]? = some x := ⟨_, List.getElem?_eq_getElem (by omega)⟩
  obtain ⟨b', o', e, h0, h1, h2⟩ := h _ x hx
  injection e with e
  injection e with e1 e2
  subst e1; subst e2
  rw [Addr.add_mid]
  have at_ : ∀ r v, (so x)[r]? = some v → j % 3 = r → u = v := fun r v hv hr => by
    have := flat_at (enc := so) (c := 3) X (fun x _ => so_len x) (j / 3) x hx r v hv
    rw [show j / 3 * 3 + r = j by omega, hj] at this
    exact Option.some.inj this
  have hm : j % 3 = 0 ∨ j % 3 = 1 ∨ j % 3 = 2 := by omega
  rcases hm with hm | hm | hm
  · rw [at_ 0 _ rfl hm, show o + j = o + j / 3 * 3 by omega]; exact h0
  · rw [at_ 1 _ rfl hm, show o + j = o + j / 3 * 3 + 1 by omega]; exact h1
  · rw [at_ 2 _ rfl hm, show o + j = o + j / 3 * 3 + 2 by omega]; exact h2

set_option maxHeartbeats 1000000 in
theorem clone_any (w : World) (a : Option Addr) (c : Nat) (X : List Rn.Op) (h : OpAt w a X) (hn : X.length * 24 ≤ 140737488355328) :
    Calls Try.prog 18 #[.slice a X.length c] w fun e w' => ∃ v, e = .returned v ∧ OwnOp w' w.heap.size v X ∧ Below w.heap.size w w' := by
  obtain ⟨i0, hi, hz0, hz1, hz2⟩ := info_parts op_info
  have q22 : ∀ (w : World) (a : Option Addr) (n c n' c' : Nat), (binOp .eql 22 (.slice a n c) (.slice none n' c')).run Try.prog w = .ok (.bool a.isNone) w := fun w a n c n' c' => Lib.run_eql_slice_nil w _ _ a n c n' c' Try.underlying22
  cases a with
  | none =>
    have hX : X = [] := by
      cases X with
      | nil => rfl
      | cons x X => obtain ⟨b, o, e, _⟩ := h 0 x rfl; cases e
    subst hX
    clear h hi hz0 hz1 hz2
    go_enter Try.func18, Try.ntmps18
    go_wp2_with fail
    go_ret
    exact ⟨_, rfl, OwnOp.nil _ _, Below.refl _ _⟩
  | some q =>
    have H := hid h
    clear h
    go_enter Try.func18, Try.ntmps18
    go_wp2_with (at_builtin; refine wpList_append_own _ rfl _ _ 22 rfl w.heap.size 25 i0 (.agg #[.int .i64 0, .int .i64 0, .int .i64 0]) 3 24 Try.underlying22 hi hz0 hz1 hz2 rfl (by decide) _ _ _ rfl (World.ownsRow_made w #[] 0 (Nat.le_refl _) (Nat.zero_le _) rfl) q X.length c (X.flatMap so) rfl ?qc1 ?qc2 ?qc3 ?qc4 ?qc5 ?qc6 ?_)
    case qc1 => exact op_len X
    case qc2 =>
      intro j u hj
      have hX : 0 < X.length := by have := (List.getElem?_eq_some_iff.1 hj).1; rw [op_len] at this; omega
      obtain ⟨x, hx⟩ : ∃ x, X[0]? = some x := ⟨_, List.getElem?_eq_getElem hX⟩
      obtain ⟨b, o, e, _⟩ := H.out _ _ hx
      cases e
      exact ((H.out.below (bx w _)).flat) j u hj
    case qc3 => exact op_one X
    case qc4 => unfold maxLen; omega
    case qc5 => omega
    case qc6 => simp
    intro v' w1 hown hgrow hnil
    have HO := hid hown
    have HB : Hid (Below w.heap.size w w1) := ((Below.refl _ w).alloc (Nat.le_refl _) _).grown hgrow (by simp) (by intro k hk; simp [Value.ownBlock] at hk; omega)
    clear hown hgrow hnil
    go_wp2
    go_ret
    refine ⟨v', rfl, ?_, HB.out⟩
    have := HO.out
    simpa [OwnOp] using this

end Go.Proofs.Ytlalpahfoafhoai.PRun
