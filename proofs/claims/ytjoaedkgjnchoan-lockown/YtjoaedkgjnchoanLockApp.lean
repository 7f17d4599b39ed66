/- append of locks that lie somewhere, or nowhere; lock.copyOf, walked: the same locks in a row of one's own; nothing that was there has turned. Conditions: how many locks there are. -/
import Derived.Test.YtjoaedkgjnchoanLockLib
import Derived.Test.YtjoaedkgjnchoanLockTab
import Derived.OrdersHeld
import Derived.Laws.OwnMore
import Derived.Deep.AppendLies
namespace Go.Proofs.Ytjoaedkgjnchoan.PLock
open Go Go.RowKit PPool
set_option maxRecDepth 100000

/-- append of locks that lie somewhere, or nowhere. -/
theorem wpList_append_lk {ops : Array Oper} {rest : List Oper} {o : Oper} {a : Act} {w : World} {Q : Exit → Act → World → Prop} (hgd : o.guard = none) (s x : Operand)
    (ho : o.op = .call { callee := .builtin .append, args := #[s, x], argTypes := #[64, 64] })
    (base : Nat) (v : Value) (Y : List Lk.Lo) (hs : a.eval s = v) (hown : OwnLk w base v Y) (xa : Option Addr) (c : Nat) (X : List Lk.Lo) (hx : a.eval x = .slice xa X.length c) (hX : LkAt w xa X)
    (hc : xa = none → c = 0) (h63 : (Y.length + X.length) * 16 ≤ 140737488355328) (hbase : base ≤ w.heap.size)
    (h : ∀ v' w', OwnLk w' base v' (Y ++ X) → w.grownBy w' v.ownBlock → wpList Try.prog ops Q rest (a.put o.dst v') w') : wpList Try.prog ops Q (o :: rest) a w := by
  obtain ⟨i0, hi, hz0, hz1, hz2⟩ := info_parts lock_info
  cases xa with
  | none =>
    have hX0 : X = [] := by
      cases X with
      | nil => rfl
      | cons y Y => obtain ⟨b, o, e, _⟩ := hX 0 y rfl; cases e
    subst hX0
    obtain rfl := hc rfl
    have hr := fun ty => run_append_owned_none (P := Try.prog) w base 64 ty 62 i0 2 Try.underlying64 hi v Y.length _ hown
    refine Lib.wpList_append_run w hgd s x 64 64 ho v (.slice none 0 0) hs hx v w (hr _) ?_
    refine h v w ?_ ⟨rfl, rfl, rfl, Nat.le_refl _, fun _ _ _ => rfl⟩
    rw [List.append_nil]; exact hown
  | some q =>
    refine wpList_append_own w hgd s x 64 ho base 62 i0 (.agg #[.int .i64 0, .int .i64 0]) 2 16 Try.underlying64 hi hz0 hz1 hz2 rfl (by decide) v Y.length (Y.flatMap lc) hs hown q X.length c (X.flatMap lc) hx (lk_len X) ?_ (lk_one X) (by unfold maxLen; omega) h63 hbase ?_
    · intro j u hj
      have hX0 : 0 < X.length := by have := (List.getElem?_eq_some_iff.1 hj).1; rw [lk_len] at this; omega
      obtain ⟨x, hx⟩ : ∃ x, X[0]? = some x := ⟨_, List.getElem?_eq_getElem hX0⟩
      obtain ⟨b, o, e, _⟩ := hX _ _ hx
      cases e
      exact hX.flat j u hj
    · intro v' w' ho' hg' _
      refine h v' w' ?_ hg'
      show w'.ownsRow base _ 2 v' (Y ++ X).length ((Y ++ X).flatMap lc)
      rw [List.length_append, List.flatMap_append]
      exact ho'

/-- append of locks that lie somewhere, as a step of a region that draws its order. -/
theorem step_append_lk {ops : Array Oper} {o : Oper} {a : Act} {w : World} {K : Act → World → Prop} {Q : Exit → Act → World → Prop} {E : Prop} (hgd : o.guard = none) (s x : Operand)
    (ho : o.op = .call { callee := .builtin .append, args := #[s, x], argTypes := #[64, 64] })
    (base : Nat) (v : Value) (Y : List Lk.Lo) (hs : a.eval s = v) (hown : OwnLk w base v Y) (xa : Option Addr) (c : Nat) (X : List Lk.Lo) (hx : a.eval x = .slice xa X.length c) (hX : LkAt w xa X)
    (hc : xa = none → c = 0) (h63 : (Y.length + X.length) * 16 ≤ 140737488355328) (hbase : base ≤ w.heap.size)
    (h : ∀ v' w', OwnLk w' base v' (Y ++ X) → w.grownBy w' v.ownBlock → (v ≠ .slice none 0 0 → v' ≠ .slice none 0 0) → K (a.put o.dst v') w') :
    if Region.wanted o (yielded ops a.tmps) = true then Oper.wp Try.prog o a w K Q else E := by
  have hw : Region.wanted o (yielded ops a.tmps) = true := by simp [Region.wanted, hgd]
  rw [if_pos hw]
  obtain ⟨i0, hi, hz0, hz1, hz2⟩ := info_parts lock_info
  cases xa with
  | none =>
    have hX0 : X = [] := by
      cases X with
      | nil => rfl
      | cons y Y => obtain ⟨b, o, e, _⟩ := hX 0 y rfl; cases e
    subst hX0
    obtain rfl := hc rfl
    have hr := fun ty => run_append_owned_none (P := Try.prog) w base 64 ty 62 i0 2 Try.underlying64 hi v Y.length _ hown
    unfold Oper.wp execOp
    simp only [ho, resolve, invoke, builtin, Sem.run_bind, Sem.run_pure, Result.andThen_ok, List.map_toArray, List.map_cons, List.map_nil, hs, hx, List.length_nil, hr]
    refine h v w ?_ ⟨rfl, rfl, rfl, Nat.le_refl _, fun _ _ _ => rfl⟩ id
    rw [List.append_nil]; exact hown
  | some q =>
    refine wp_append_own w s x 64 ho base 62 i0 (.agg #[.int .i64 0, .int .i64 0]) 2 16 Try.underlying64 hi hz0 hz1 hz2 rfl (by decide) v Y.length (Y.flatMap lc) hs hown q X.length c (X.flatMap lc) hx (lk_len X) ?_ (lk_one X) (by unfold maxLen; omega) h63 hbase ?_
    · intro j u hj
      have hjl : j < X.length * 2 := by have := (List.getElem?_eq_some_iff.1 hj).1; rwa [lk_len] at this
      obtain ⟨y, hy⟩ : ∃ y, X[j / 2]? = some y := ⟨_, List.getElem?_eq_getElem (by omega)⟩
      obtain ⟨b, o, e, d1, d2⟩ := hX _ _ hy
      cases e
      rw [Addr.add_mid]
      rcases Nat.mod_two_eq_zero_or_one j with hm | hm
      · have e1 : j = j / 2 * 2 + 0 := by omega
        have e2 := flat_at (enc := lc) (c := 2) X (fun x _ => lc_len x) (j / 2) y hy 0 (.int .i64 y.x) rfl
        rw [← e1, hj] at e2
        rw [e2, ← d1]
        congr 2
        omega
      · have e1 : j = j / 2 * 2 + 1 := by omega
        have e2 := flat_at (enc := lc) (c := 2) X (fun x _ => lc_len x) (j / 2) y hy 1 (.int .i64 y.m) rfl
        rw [← e1, hj] at e2
        rw [e2, ← d2]
        congr 2
        omega
    · intro v' w' ho' hg' hn'
      refine h v' w' ?_ hg' (fun hv e => hv ((hn'.1 e).1))
      show w'.ownsRow base _ 2 v' (Y ++ X).length ((Y ++ X).flatMap lc)
      rw [List.length_append, List.flatMap_append]
      exact ho'

/-- append of one lock that was laid new, as a step of a region that draws its order: where the row lies then. -/
theorem step_app1_lk {ops : Array Oper} {o : Oper} {a : Act} {w : World} {K : Act → World → Prop} {Q : Exit → Act → World → Prop} {E : Prop} (hgd : o.guard = none) (s x : Operand)
    (ho : o.op = .call { callee := .builtin .append, args := #[s, x], argTypes := #[64, 64] })
    (base : Nat) (v : Value) (Y : List Lk.Lo) (hs : a.eval s = v) (hown : OwnLk w base v Y) (xb : Nat) (z : Lk.Lo) (hx : a.eval x = .slice (some ⟨xb, 0, none⟩) 1 1) (hX : LkAt w (some ⟨xb, 0, none⟩) [z])
    (h63 : Y.length ≤ 2000) (hbase : base ≤ w.heap.size)
    (h : ∀ g cap w', OwnLk w' base (.slice (some ⟨g, 0, none⟩) (Y.length + 1) cap) (Y ++ [z]) → w.grownBy w' v.ownBlock → (v.ownBlock = some g ∨ g = w.heap.size) → K (a.put o.dst (.slice (some ⟨g, 0, none⟩) (Y.length + 1) cap)) w') :
    if Region.wanted o (yielded ops a.tmps) = true then Oper.wp Try.prog o a w K Q else E := by
  obtain ⟨i0, hi, hz0, hz1, hz2⟩ := info_parts lock_info
  refine step_append_lies w hgd s x 64 ho base 62 i0 (.agg #[.int .i64 0, .int .i64 0]) 2 16 Try.underlying64 hi hz0 hz1 hz2 rfl (by decide) v Y.length (Y.flatMap lc) hs hown ⟨xb, 0, none⟩ 1 1 (lc z) hx rfl ?_ (lc_one z) (by omega) (by unfold maxLen; omega) (by omega) hbase w.heap.size rfl ?_
  · intro j u hj
    exact hX.flat j u (by simpa using hj)
  · intro g cap w' ho' hg' hat _
    exact h g cap w' (OwnLk.grows ho') hg' hat
theorem copyOf_any (w : World) (v : Value) (L : List Lk.Lo) (h : LsAt w v L) (hl : L.length ≤ 2000) :
    Calls Try.prog 66 #[v] w fun e w' => ∃ v', e = .returned v' ∧ OwnLk w' w.heap.size v' L ∧ Below w.heap.size w w' := by
  obtain ⟨a, c, rfl, h1, h2, h3, h4⟩ := h
  have H := hid h1
  have HC := hid h4
  clear h1 h4
  go_enter Try.func66, Try.ntmps66
  go_wp2_with (at_builtin; refine wpList_append_lk rfl _ _ rfl w.heap.size (.slice none 0 0) [] rfl (OwnLk.nil _ _) a c L rfl H.out HC.out ?c1 (Nat.le_refl _) ?_)
  case c1 => simp; omega
  intro v' w1 ho hg
  have HO : Hid (OwnLk w1 w.heap.size v' L) := ho
  have HB : Hid (Below w.heap.size w w1) := (Below.refl _ w).grown hg (Nat.le_refl _) (fun k hk => by cases hk)
  clear ho hg
  go_wp2_with fail
  go_ret
  exact ⟨v', rfl, HO.out, HB.out⟩
end Go.Proofs.Ytjoaedkgjnchoan.PLock
