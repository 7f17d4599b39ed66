/- Go's slices.Clone at edges, walked: it answers the same edges in a row of one's own; nothing that was there has turned. Conditions: how many edges there are. -/
import Derived.Test.YtbgcldckgiiedacDoorWaitLib
namespace Go.Proofs.YtbgcldckgiiedacDoor.PWait
open Go Go.RowKit PPool PGraph
set_option maxRecDepth 100000

set_option maxHeartbeats 1000000 in
theorem clone_any (w : World) (a : Option Addr) (c : Nat) (X : List Gr.Ed) (h : PgAt w a X) (hn : X.length * 16 ≤ 140737488355328) :
    Calls Tryd.prog 17 #[.slice a X.length c] w fun e w' => ∃ v, e = .returned v ∧ OwnPg w' w.heap.size v X ∧ Below w.heap.size w w' := by
  obtain ⟨i0, hi, hz0, hz1, hz2⟩ := info_parts edge_info
  have q22 : ∀ (w : World) (a : Option Addr) (n c n' c' : Nat), (binOp .eql 22 (.slice a n c) (.slice none n' c')).run Tryd.prog w = .ok (.bool a.isNone) w := fun w a n c n' c' => Lib.run_eql_slice_nil w _ _ a n c n' c' Tryd.underlying22
  cases a with
  | none =>
    have hX : X = [] := by
      cases X with
      | nil => rfl
      | cons x X => obtain ⟨b, o, e, _⟩ := h 0 x rfl; cases e
    subst hX
    clear h hi hz0 hz1 hz2
    go_enter Tryd.func17, Tryd.ntmps17
    go_wp2_with fail
    go_ret
    exact ⟨_, rfl, OwnPg.nil _ _, Below.refl _ _⟩
  | some q =>
    have H := hid h
    clear h
    go_enter Tryd.func17, Tryd.ntmps17
    go_wp2_with (at_builtin; refine wpList_append_own _ rfl _ _ 22 rfl w.heap.size 34 i0 (.agg #[.int .i64 0, .int .i64 0]) 2 16 Tryd.underlying22 hi hz0 hz1 hz2 rfl (by decide) _ _ _ rfl (World.ownsRow_made w #[] 0 (Nat.le_refl _) (Nat.zero_le _) rfl) q X.length c (X.flatMap sc) rfl ?qc1 ?qc2 ?qc3 ?qc4 ?qc5 ?qc6 ?_)
    case qc1 => exact pg_len X
    case qc2 =>
      intro j u hj
      have hX : 0 < X.length := by have := (List.getElem?_eq_some_iff.1 hj).1; rw [pg_len] at this; omega
      obtain ⟨x, hx⟩ : ∃ x, X[0]? = some x := ⟨_, List.getElem?_eq_getElem hX⟩
      obtain ⟨b, o, e, _⟩ := H.out _ _ hx
      cases e
      exact PgAt.flat (H.out.below (bx w _)) j u hj
    case qc3 => exact pg_one X
    case qc4 => unfold maxLen; omega
    case qc5 => omega
    case qc6 => simp
    intro v' w1 hown hgrow hnil
    have HO := hid hown
    have HB : Hid (Below w.heap.size w w1) := ((Below.refl _ w).alloc (Nat.le_refl _) _).grown hgrow (by simp) (by intro k hk; simp [Value.ownBlock] at hk; omega)
    clear hown hgrow hnil
    go_wp2
    go_ret
    refine ⟨v', rfl, ?_, HB.out⟩
    have := HO.out
    simpa [OwnPg] using this
end Go.Proofs.YtbgcldckgiiedacDoor.PWait
