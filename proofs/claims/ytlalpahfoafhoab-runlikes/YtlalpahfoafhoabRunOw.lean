/- append of operations; quirref.Own, walked: it answers what the plain words say, in a row of one's own, and nothing that was there has turned. Conditions: how many operations there are. -/
import Derived.Test.YtlalpahfoafhoabRunLie
import Derived.Test.YtlalpahfoafhoabRunPlc
import Derived.Test.YtlalpahfoafhoabRunChk
import Derived.Lib.AppendZerosOnto
namespace Go.Proofs.Ytlalpahfoafhoab.PRun
open Go Go.RowKit PPool PGraph
set_option maxRecDepth 100000

/-- append of operations that lie somewhere, or nowhere. -/
theorem wpList_append_op {ops : Array Oper} {rest : List Oper} {o : Oper} {a : Act} {w : World} {Q : Exit → Act → World → Prop} (hgd : o.guard = none) (s x : Operand)
    (ho : o.op = .call { callee := .builtin .append, args := #[s, x], argTypes := #[63, 63] })
    (base : Nat) (v : Value) (Y : List Rn.Op) (hs : a.eval s = v) (hown : OwnOp w base v Y) (xa : Option Addr) (c n : Nat) (X : List Rn.Op) (hn : X.length = n) (hx : a.eval x = .slice xa n c) (hX : OpAt w xa X)
    (hc : xa = none → c = 0) (h63 : (Y.length + X.length) * 24 ≤ 140737488355328) (hbase : base ≤ w.heap.size)
    (h : ∀ v' w', OwnOp w' base v' (Y ++ X) → w.grownBy w' v.ownBlock → wpList Try.prog ops Q rest (a.put o.dst v') w') : wpList Try.prog ops Q (o :: rest) a w := by
  subst hn
  obtain ⟨i0, hi, hz0, hz1, hz2⟩ := info_parts op_info
  cases xa with
  | none =>
    have hX0 : X = [] := by
      cases X with
      | nil => rfl
      | cons y Y => obtain ⟨b, o, e, _⟩ := hX 0 y rfl; cases e
    subst hX0
    obtain rfl := hc rfl
    have hr := fun ty => run_append_owned_none (P := Try.prog) w base 63 ty 129 i0 3 Try.underlying63 hi v Y.length _ hown
    refine Lib.wpList_append_run w hgd s x 63 63 ho v (.slice none 0 0) hs hx v w (hr _) ?_
    refine h v w ?_ ⟨rfl, rfl, rfl, Nat.le_refl _, fun _ _ _ => rfl⟩
    rw [List.append_nil]; exact hown
  | some q =>
    refine wpList_append_own w hgd s x 63 ho base 129 i0 (.agg #[.int .i64 0, .int .i64 0, .int .i64 0]) 3 24 Try.underlying63 hi hz0 hz1 hz2 rfl (by decide) v Y.length (Y.flatMap so) hs hown q X.length c (X.flatMap so) hx (op_len X) ?_ (op_one X) (by unfold maxLen; omega) h63 hbase ?_
    · intro j u hj
      have hX0 : 0 < X.length := by have := (List.getElem?_eq_some_iff.1 hj).1; rw [op_len] at this; omega
      obtain ⟨x, hx⟩ : ∃ x, X[0]? = some x := ⟨_, List.getElem?_eq_getElem hX0⟩
      obtain ⟨b, o, e, _⟩ := hX _ _ hx
      cases e
      exact hX.flat j u hj
    · intro v' w' ho' hg' _
      refine h v' w' ?_ hg'
      show w'.ownsRow base _ 3 v' (Y ++ X).length ((Y ++ X).flatMap so)
      rw [List.length_append, List.flatMap_append]
      exact ho'
theorem own_nil {w : World} {base : Nat} {n c : Nat} {X : List Rn.Op} (h : OwnOp w base (.slice none n c) X) : c = 0 := by
  rcases h.2 with ⟨e, _⟩ | ⟨g, cap, cur, hv, _⟩
  · injection e
  · injection hv with e; cases e
theorem own_step {X : List Rn.Op} {k : Nat} {x : Rn.Op} (hx : X[k]? = some x) (t : Nat) : Rn.own (X.take (k + 1)) t = if x.x = t then Rn.own (X.take k) t ++ [x] else Rn.own (X.take k) t := by
  unfold Rn.own
  rw [Rn.take_snoc hx, List.filter_append]
  by_cases h : x.x = t
  · rw [if_pos h]; simp [h]
  · rw [if_neg h]; simp [h]
theorem own_le (X : List Rn.Op) (t : Nat) : (Rn.own X t).length ≤ X.length := List.length_filter_le _ _
theorem grown_own {w wr w4 : World} {v : Value} {X : List Rn.Op} (hb : Below w.heap.size w wr) (ho : OwnOp wr w.heap.size v X) (hg : wr.grownBy w4 v.ownBlock) : Below w.heap.size w w4 := hb.grown hg hb.size (fun b h => (ho.lt b h).1)

set_option maxHeartbeats 2000000 in
theorem own_any (w : World) (a : Option Addr) (c : Nat) (X : List Rn.Op) (t : Nat) (h : OpAt w a X) (hl : X.length * 24 ≤ 140737488355328) :
    Calls Try.prog 93 #[.slice a X.length c, .int .i64 (t : Int)] w fun e w' => ∃ v, e = .returned v ∧ OwnOp w' w.heap.size v (Rn.own X t) ∧ Below w.heap.size w w' := by
  have H := hid h
  clear h
  go_enter Try.func93, Try.ntmps93
  go_wp2_with fail
  go_loopw [5, 7, 10] (fun v _ i wr => ∃ (k : Nat) (V : Value), k ≤ X.length ∧ V = v ∧ i = .int .i64 (k : Int) ∧ Hid (OwnOp wr w.heap.size V (Rn.own (X.take k) t)) ∧ Hid (Below w.heap.size w wr)) (fun _ _ i _ => X.length - (intOf i).toNat)
  case atStart => exact ⟨0, _, Nat.zero_le _, rfl, rfl, OwnOp.nil _ _, Below.refl _ _⟩
  case round =>
    obtain ⟨k, v, hk, rfl, rfl, hO, hb⟩ := hrel
    by_cases hlt : k < X.length
    · obtain ⟨x, hx⟩ : ∃ x, X[k]? = some x := ⟨_, List.getElem?_eq_getElem hlt⟩
      obtain ⟨b, o, rfl, d1, d2, d3⟩ := (H.out.below hb.out) k x hx
      have k0 : (0 : Int) ≤ (k : Int) := by omega
      have k1 : (k : Int) < (X.length : Int) := by omega
      have HS := hid (own_step hx t)
      have hlen := own_le (X.take k) t
      rw [List.length_take] at hlen
      clear hx
      obtain ⟨ox, ok, oi⟩ := x
      simp only at d1 d2 d3 HS
      obtain ⟨Y, hY⟩ : ∃ Y, Y = Rn.own (X.take k) t := ⟨_, rfl⟩
      rw [← hY] at hO HS hlen
      clear hY
      by_cases hx : ox = (t : Int)
      · have HS2 : Hid (Rn.own (X.take (k + 1)) t = Y ++ [⟨ox, ok, oi⟩]) := by show _ = _; rw [HS.out, if_pos hx]
        have hxB : (ox == (t : Int)) = true := by simpa using hx
        have A1 : ∀ o1 o2, Hid (OwnOp ((wr.alloc o1).alloc o2) w.heap.size v Y ∧ Below w.heap.size w ((wr.alloc o1).alloc o2)) := fun o1 o2 => ⟨hO.out.below (bx2 _ _ _), below_tr hb.out (bx2 _ _ _)⟩
        have R1 : ∀ o1, Hid (OpAt ((wr.alloc o1).alloc (.cells #[.int .i64 ox, .int .i64 ok, .int .i64 oi] 129)) (some ⟨wr.heap.size + 1, 0, none⟩) [⟨ox, ok, oi⟩]) := fun o1 => by
          have := row_at (wr.alloc o1) [⟨ox, ok, oi⟩] #[.int .i64 ox, .int .i64 ok, .int .i64 oi] 129 rfl
          rwa [show (wr.alloc o1).heap.size = wr.heap.size + 1 by simp] at this
        clear HS hx hO hb
        go_wp2_with (at_builtin; refine wpList_append_op rfl _ _ rfl w.heap.size v Y rfl (A1 _ _).out.1 (some ⟨wr.heap.size + 1, 0, none⟩) 1 1 [⟨ox, ok, oi⟩] rfl (by rfl) (R1 _).out (fun e => by cases e) (by simp; omega) (A1 _ _).out.2.size ?_)
        intro v' w4 ho4 hg4
        have O4 : Hid (OwnOp w4 w.heap.size v' (Rn.own (X.take (k + 1)) t)) := by rw [HS2.out]; exact ho4
        have B4 : Hid (Below w.heap.size w w4) := grown_own (A1 _ _).out.2 (A1 _ _).out.1 hg4
        clear ho4 hg4 A1 HS2
        go_wp2_with fail
        go_roundw
        case rel => exact ⟨k + 1, v', by omega, rfl, by go_num, O4, B4⟩
        case measure => simp [intOf]; omega
      · have HS2 : Hid (Rn.own (X.take (k + 1)) t = Y) := by show _ = _; rw [HS.out, if_neg hx]
        have hxB : (ox == (t : Int)) = false := by simpa using hx
        have A1 : ∀ o1, Hid (OwnOp (wr.alloc o1) w.heap.size v Y ∧ Below w.heap.size w (wr.alloc o1)) := fun o1 => ⟨hO.out.below (bx _ _), below_tr hb.out (bx _ _)⟩
        clear HS hx hO hb
        go_wp2_with fail
        go_roundw
        case rel => exact ⟨k + 1, v, by omega, rfl, by go_num, by rw [HS2.out]; exact (A1 _).out.1, (A1 _).out.2⟩
        case measure => simp [intOf]; omega
    · obtain rfl : k = X.length := by omega
      have j3 : decide ((X.length : Int) < (X.length : Int)) = false := by simp
      have hO2 : Hid (OwnOp wr w.heap.size v (Rn.own X t)) := by have := hO.out; rwa [List.take_length] at this
      clear hO
      go_wp2_with fail
      go_ret
      exact ⟨_, rfl, hO2.out, hb.out⟩
end Go.Proofs.Ytlalpahfoafhoab.PRun
