/- Go's slices.Clone at items, walked: it answers the same items in a row of one's own; nothing that was there has turned. Conditions: how many items there are. -/
import Derived.Test.YtjoaedkgjnchoanLockRIns
import Derived.Deep.Slices
namespace Go.Proofs.Ytjoaedkgjnchoan.PLock
open Go Go.RowKit PPool
set_option maxRecDepth 100000

/-- The raw cells of a table. -/
theorem TbAt.raw {w : World} {a : Option Addr} {T : List Lk.It} (h : TbAt w a T) : ∃ P : List Rw, P.length = T.length ∧ RwAt w a P ∧ ∀ (j : Nat) (x : Rw) (y : Lk.It), P[j]? = some x → T[j]? = some y → x.i = y.i ∧ LsAt w x.vh y.h ∧ LsAt w x.vq y.q := by
  have hin : Inhabited Rw := ⟨⟨0, none, 0, 0, none, 0, 0⟩⟩
  obtain ⟨V, hV⟩ := Go.Deep.choose_lt (α := Rw) (n := T.length) (p := fun j x => ∃ y, T[j]? = some y ∧ (x.i = y.i ∧ LsAt w x.vh y.h ∧ LsAt w x.vq y.q) ∧ ∃ b o, a = some ⟨b, o, none⟩ ∧ w.cell? ⟨b, o + j * 3, none⟩ = some (.int .i64 x.i) ∧ w.cell? ⟨b, o + j * 3 + 1, none⟩ = some (.slice x.ha x.hn x.hc) ∧ w.cell? ⟨b, o + j * 3 + 2, none⟩ = some (.slice x.qa x.qn x.qc)) (fun j hj => by
    obtain ⟨y, hy⟩ : ∃ y, T[j]? = some y := ⟨_, List.getElem?_eq_getElem hj⟩
    obtain ⟨b, o, vh, vq, e, d0, d1, d2, h1, h2⟩ := h j y hy
    have h1' := h1
    have h2' := h2
    obtain ⟨a1, c1, rfl, _⟩ := h1
    obtain ⟨a2, c2, rfl, _⟩ := h2
    exact ⟨⟨y.i, a1, _, c1, a2, _, c2⟩, y, hy, ⟨rfl, h1', h2'⟩, b, o, e, d0, d1, d2⟩)
  have key : ∀ (j : Nat) (x : Rw), ((List.range T.length).map V)[j]? = some x → j < T.length ∧ V j = x := fun j x hj => by
    rw [List.getElem?_map] at hj
    cases hr : (List.range T.length)[j]? with
    | none => rw [hr] at hj; cases hj
    | some k =>
      rw [hr] at hj
      obtain ⟨h1, h2⟩ := List.getElem?_eq_some_iff.1 hr
      simp at h1 h2
      subst h2
      exact ⟨h1, by simpa using hj⟩
  refine ⟨(List.range T.length).map V, by simp, fun j x hj => ?_, fun j x y hj hy => ?_⟩
  · obtain ⟨hl, rfl⟩ := key j x hj
    obtain ⟨y, _, _, b, o, e, d⟩ := hV j hl
    exact ⟨b, o, e, d⟩
  · obtain ⟨hl, rfl⟩ := key j x hj
    obtain ⟨y', hy', h1, _⟩ := hV j hl
    rw [hy] at hy'
    cases hy'
    exact h1

set_option maxHeartbeats 1000000 in
theorem cloneI_any (w : World) (a : Option Addr) (c : Nat) (X : List Rw) (h : RwAt w a X) (hn : X.length * 56 ≤ 140737488355328) :
    Calls Try.prog 23 #[.slice a X.length c] w fun e w' => ∃ v, e = .returned v ∧ OwnIt w' w.heap.size v X ∧ Below w.heap.size w w' := by
  obtain ⟨i0, hi, hz0, hz1, hz2⟩ := info_parts item_info
  have q22 : ∀ (w : World) (a : Option Addr) (n c n' c' : Nat), (binOp .eql 58 (.slice a n c) (.slice none n' c')).run Try.prog w = .ok (.bool a.isNone) w := fun w a n c n' c' => Lib.run_eql_slice_nil w _ _ a n c n' c' Try.underlying58
  cases a with
  | none =>
    have hX : X = [] := by
      cases X with
      | nil => rfl
      | cons x X => obtain ⟨b, o, e, _⟩ := h 0 x rfl; cases e
    subst hX
    clear h hi hz0 hz1 hz2
    go_enter Try.func23, Try.ntmps23
    go_wp2_with fail
    go_ret
    exact ⟨_, rfl, OwnIt.nil _ _, Below.refl _ _⟩
  | some q =>
    have H := hid h
    clear h
    go_enter Try.func23, Try.ntmps23
    go_wp2_with (at_builtin; refine wpList_append_own _ rfl _ _ 58 rfl w.heap.size 66 i0 (.agg #[.int .i64 0, .slice none 0 0, .slice none 0 0]) 3 56 Try.underlying58 hi hz0 hz1 hz2 rfl (by decide) _ _ _ rfl (World.ownsRow_made w #[] 0 (Nat.le_refl _) (Nat.zero_le _) rfl) q X.length c (X.flatMap ic) rfl ?qc1 ?qc2 ?qc3 ?qc4 ?qc5 ?qc6 ?_)
    case qc1 => exact rw_len X
    case qc2 =>
      intro j u hj
      have hX : 0 < X.length := by have := (List.getElem?_eq_some_iff.1 hj).1; rw [rw_len] at this; omega
      obtain ⟨x, hx⟩ : ∃ x, X[0]? = some x := ⟨_, List.getElem?_eq_getElem hX⟩
      obtain ⟨b, o, e, _⟩ := H.out _ _ hx
      cases e
      exact ((H.out.below (bx w _)).flat) j u hj
    case qc3 => exact rw_one X
    case qc4 => unfold maxLen; omega
    case qc5 => omega
    case qc6 => simp
    intro v' w1 hown hgrow hnil
    have HO := hid hown
    have HB : Hid (Below w.heap.size w w1) := ((Below.refl _ w).alloc (Nat.le_refl _) _).grown hgrow (by simp) (by intro k hk; simp [Value.ownBlock] at hk; omega)
    clear hown hgrow hnil
    go_wp2
    go_ret
    refine ⟨v', rfl, ?_, HB.out⟩
    have := HO.out
    simpa [OwnIt] using this
end Go.Proofs.Ytjoaedkgjnchoan.PLock
