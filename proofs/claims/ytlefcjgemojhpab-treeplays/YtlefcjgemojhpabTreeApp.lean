/- Go's append at rows of entries and of pointers, as an operation of a statement that draws its order: the row is one's own afterwards; no other block turns. -/
import Derived.Test.YtlefcjgemojhpabTreeNow
import Derived.Deep.RegionLaw
namespace Go.Proofs.Ytlefcjgemojhpab.PTree
open Go Go.RowKit PPool
set_option maxRecDepth 100000
theorem goes_at {v v' : Value} {w w' : World} (hg : w.grownBy w' v.ownBlock) (hat : v'.ownBlock = v.ownBlock ∨ v'.ownBlock = some w.heap.size) : Goes (ownB v) w w' (ownB v') := by
  have gg := (Goes.refl (ownB v) w).grown hg (fun k hk => .inl hk)
  exact ⟨gg.os, gg.tape, gg.output, gg.size, gg.block, fun g hg => by
    rcases hat with e | e
    · exact gg.grow g (e.symm.trans hg)
    · right
      have e2 : some g = some _ := hg.symm.trans e
      injection e2 with e2
      omega⟩
theorem run_app_E {w : World} (ty : TypeId) (v : Value) (Y : List En) (hown : TE.OwnPg w 0 v Y) (xa : Option Addr) (c : Nat) (X : List En) (hX : TE.PgAt w xa X) (hc : xa = none → c = 0) (h63 : Y.length + X.length ≤ 4000) :
    ∃ v' w', (Builtin.append_ #[74, 74] ty #[v, .slice xa X.length c]).run Try.prog w = .ok v' w' ∧ TE.OwnPg w' 0 v' (Y ++ X) ∧ Goes (ownB v) w w' (ownB v') := by
  obtain ⟨i0, hi, hz0, hz1, hz2⟩ := info_parts TE.block_info
  cases xa with
  | none =>
    have hX0 : X = [] := by
      cases X with
      | nil => rfl
      | cons y Y => obtain ⟨b, o, e, _⟩ := hX 0 y rfl; cases e
    subst hX0
    obtain rfl := hc rfl
    have hr := run_append_owned_none (P := Try.prog) w 0 74 ty 87 i0 2 Try.underlying74 hi v Y.length _ hown
    exact ⟨v, w, hr, by rw [List.append_nil]; exact hown, Goes.refl _ _⟩
  | some q =>
    obtain ⟨v', w', h1, h2, h3, _, h5⟩ := run_append_own_at (P := Try.prog) (w := w) 0 74 ty 87 i0 (.agg #[.int .i64 0, .string ⟨#[]⟩]) 2 24 Try.underlying74 hi hz0 hz1 hz2 rfl (by decide) v Y.length (Y.flatMap TE.sc) hown q X.length c (X.flatMap TE.sc) (TE.pg_len X) (by
      intro j u hj
      have hX' : 0 < X.length := by have := (List.getElem?_eq_some_iff.1 hj).1; rw [TE.pg_len] at this; omega
      obtain ⟨x, hx⟩ : ∃ x, X[0]? = some x := ⟨_, List.getElem?_eq_getElem hX'⟩
      obtain ⟨b, o, e, _⟩ := hX _ _ hx
      cases e
      exact hX.flat j u hj) (TE.pg_one X) (by unfold maxLen; omega) (by omega) (Nat.zero_le _)
    refine ⟨v', w', h1, ?_, goes_at h3 h5⟩
    show w'.ownsRow 0 _ 2 v' (Y ++ X).length ((Y ++ X).flatMap TE.sc)
    rw [List.length_append, List.flatMap_append]
    exact h2
theorem run_app_P {w : World} (ty : TypeId) (v : Value) (Y : List Nat) (hown : TP.OwnPg w 0 v (Y.map pt)) (xa : Option Addr) (c : Nat) (X : List Nat) (hX : TP.PgAt w xa (X.map pt)) (hc : xa = none → c = 0) (h63 : Y.length + X.length ≤ 4000) :
    ∃ v' w', (Builtin.append_ #[75, 75] ty #[v, .slice xa X.length c]).run Try.prog w = .ok v' w' ∧ TP.OwnPg w' 0 v' ((Y ++ X).map pt) ∧ Goes (ownB v) w w' (ownB v') := by
  obtain ⟨i0, hi, hz0, hz1, hz2⟩ := info_parts TP.block_info
  have hown' : w.ownsRow 0 82 1 v Y.length ((Y.map pt).map TP.pc) := by
    have : w.ownsRow 0 82 1 v (Y.map pt).length ((Y.map pt).map TP.pc) := hown
    rwa [List.length_map] at this
  cases xa with
  | none =>
    have hX0 : X = [] := by
      cases X with
      | nil => rfl
      | cons y Y => obtain ⟨b, o, e, _⟩ := hX 0 (pt y) rfl; cases e
    subst hX0
    obtain rfl := hc rfl
    have hr := run_append_owned_none (P := Try.prog) w 0 75 ty 82 i0 1 Try.underlying75 hi v Y.length _ hown'
    exact ⟨v, w, hr, by rw [List.append_nil]; exact hown, Goes.refl _ _⟩
  | some q =>
    obtain ⟨v', w', h1, h2, h3, _, h5⟩ := run_append_own_at (P := Try.prog) (w := w) 0 75 ty 82 i0 (.pointer none) 1 8 Try.underlying75 hi hz0 hz1 hz2 rfl (by decide) v Y.length ((Y.map pt).map TP.pc) hown' q X.length c ((X.map pt).map TP.pc) (by simp) (by
      intro j u hj
      have hX' : 0 < (X.map pt).length := by have := (List.getElem?_eq_some_iff.1 hj).1; rw [TP.pg_len] at this; omega
      obtain ⟨x, hx⟩ : ∃ x, (X.map pt)[0]? = some x := ⟨_, List.getElem?_eq_getElem hX'⟩
      obtain ⟨b, o, e, _⟩ := hX _ _ hx
      cases e
      exact TP.PgAt.flat hX j u hj) (TP.pg_one _) (by unfold maxLen; omega) (by omega) (Nat.zero_le _)
    refine ⟨v', w', h1, ?_, goes_at h3 h5⟩
    show w'.ownsRow 0 _ 1 v' ((Y ++ X).map pt).length (((Y ++ X).map pt).map TP.pc)
    rw [List.length_map, List.length_append, List.map_append, List.map_append]
    exact h2
/-- The step. -/
theorem step_app_E {ops : Array Oper} {o : Oper} {a : Act} {w : World} {K : Act → World → Prop} {Q : Exit → Act → World → Prop} {E : Prop} (hgd : o.guard = none) (s x : Operand)
    (ho : o.op = .call { callee := .builtin .append, args := #[s, x], argTypes := #[74, 74] })
    (v : Value) (Y : List En) (hs : a.eval s = v) (hown : TE.OwnPg w 0 v Y) (xa : Option Addr) (c n : Nat) (X : List En) (hn : X.length = n) (hx : a.eval x = .slice xa n c) (hX : TE.PgAt w xa X)
    (hc : xa = none → c = 0) (h63 : Y.length + n ≤ 4000)
    (h : ∀ v' w', TE.OwnPg w' 0 v' (Y ++ X) → Goes (ownB v) w w' (ownB v') → K (a.put o.dst v') w') :
    if Region.wanted o (yielded ops a.tmps) = true then Oper.wp Try.prog o a w K Q else E := by
  subst hn
  have hw : Region.wanted o (yielded ops a.tmps) = true := by simp [Region.wanted, hgd]
  rw [if_pos hw]
  obtain ⟨v', w', hr, h2, h3⟩ := run_app_E o.type v Y hown xa c X hX hc h63
  unfold Oper.wp execOp
  simp only [ho, resolve, invoke, builtin, Sem.run_bind, Sem.run_pure, Result.andThen_ok, List.map_toArray, List.map_cons, List.map_nil, hs, hx, hr]
  exact h v' w' h2 h3
theorem step_app_P {ops : Array Oper} {o : Oper} {a : Act} {w : World} {K : Act → World → Prop} {Q : Exit → Act → World → Prop} {E : Prop} (hgd : o.guard = none) (s x : Operand)
    (ho : o.op = .call { callee := .builtin .append, args := #[s, x], argTypes := #[75, 75] })
    (v : Value) (Y : List Nat) (hs : a.eval s = v) (hown : TP.OwnPg w 0 v (Y.map pt)) (xa : Option Addr) (c n : Nat) (X : List Nat) (hn : X.length = n) (hx : a.eval x = .slice xa n c) (hX : TP.PgAt w xa (X.map pt))
    (hc : xa = none → c = 0) (h63 : Y.length + n ≤ 4000)
    (h : ∀ v' w', TP.OwnPg w' 0 v' ((Y ++ X).map pt) → Goes (ownB v) w w' (ownB v') → K (a.put o.dst v') w') :
    if Region.wanted o (yielded ops a.tmps) = true then Oper.wp Try.prog o a w K Q else E := by
  subst hn
  have hw : Region.wanted o (yielded ops a.tmps) = true := by simp [Region.wanted, hgd]
  rw [if_pos hw]
  obtain ⟨v', w', hr, h2, h3⟩ := run_app_P o.type v Y hown xa c X hX hc h63
  unfold Oper.wp execOp
  simp only [ho, resolve, invoke, builtin, Sem.run_bind, Sem.run_pure, Result.andThen_ok, List.map_toArray, List.map_cons, List.map_nil, hs, hx, hr]
  exact h v' w' h2 h3
end Go.Proofs.Ytlefcjgemojhpab.PTree
