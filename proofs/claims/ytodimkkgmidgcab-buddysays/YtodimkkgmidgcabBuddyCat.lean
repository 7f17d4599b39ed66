/- Go's slices.Grow of nothing and slices.Concat of two lists, at blocks, walked: a row of one's own with the blocks of both. Conditions: how many blocks there are. -/
import Derived.Test.YtodimkkgmidgcabBuddyLib
namespace Go.Proofs.Ytodimkkgmidgcab.PBuddy
open Go Go.RowKit PPool
set_option maxRecDepth 100000

/-- append of blocks that lie somewhere, or nowhere. -/
theorem wpList_append_pg {ops : Array Oper} {rest : List Oper} {o : Oper} {a : Act} {w : World} {Q : Exit → Act → World → Prop} (hgd : o.guard = none) (s x : Operand)
    (ho : o.op = .call { callee := .builtin .append, args := #[s, x], argTypes := #[22, 22] })
    (base : Nat) (v : Value) (Y : List Bd.Bk) (hs : a.eval s = v) (hown : OwnPg w base v Y) (xa : Option Addr) (c : Nat) (X : List Bd.Bk) (hx : a.eval x = .slice xa X.length c) (hX : PgAt w xa X)
    (hc : xa = none → c = 0) (h63 : (Y.length + X.length) * 16 ≤ 140737488355328) (hbase : base ≤ w.heap.size)
    (h : ∀ v' w', OwnPg w' base v' (Y ++ X) → w.grownBy w' v.ownBlock → wpList Try.prog ops Q rest (a.put o.dst v') w') : wpList Try.prog ops Q (o :: rest) a w := by
  obtain ⟨i0, hi, hz0, hz1, hz2⟩ := info_parts block_info
  cases xa with
  | none =>
    have hX0 : X = [] := by
      cases X with
      | nil => rfl
      | cons y Y => obtain ⟨b, o, e, _⟩ := hX 0 y rfl; cases e
    subst hX0
    obtain rfl := hc rfl
    have hr := fun ty => run_append_owned_none (P := Try.prog) w base 22 ty 37 i0 2 Try.underlying22 hi v Y.length _ hown
    refine Lib.wpList_append_run w hgd s x 22 22 ho v (.slice none 0 0) hs hx v w (hr _) ?_
    refine h v w ?_ ⟨rfl, rfl, rfl, Nat.le_refl _, fun _ _ _ => rfl⟩
    rw [List.append_nil]; exact hown
  | some q =>
    refine wpList_append_own w hgd s x 22 ho base 37 i0 (.agg #[.int .i64 0, .int .i64 0]) 2 16 Try.underlying22 hi hz0 hz1 hz2 rfl (by decide) v Y.length (Y.flatMap sc) hs hown q X.length c (X.flatMap sc) hx (pg_len X) ?_ (pg_one X) (by unfold maxLen; omega) h63 hbase ?_
    · intro j u hj
      have hX0 : 0 < X.length := by have := (List.getElem?_eq_some_iff.1 hj).1; rw [pg_len] at this; omega
      obtain ⟨x, hx⟩ : ∃ x, X[0]? = some x := ⟨_, List.getElem?_eq_getElem hX0⟩
      obtain ⟨b, o, e, _⟩ := hX _ _ hx
      cases e
      exact hX.flat j u hj
    · intro v' w' ho' hg' _
      refine h v' w' ?_ hg'
      show w'.ownsRow base _ 2 v' (Y ++ X).length ((Y ++ X).flatMap sc)
      rw [List.length_append, List.flatMap_append]
      exact ho'

set_option maxHeartbeats 1000000 in
theorem grow_any (w : World) (n : Nat) (hn : n ≤ 140737488355328) (hn2 : n * 16 ≤ 140737488355328) :
    Calls Try.prog 26 #[.slice none 0 0, .int .i64 (n : Int)] w fun e w' => ∃ v, e = .returned v ∧ OwnPg w' w.heap.size v [] ∧ Below w.heap.size w w' := by
  obtain ⟨i0, hi0, hz0, hz1, hz2⟩ := info_parts block_info
  have u := Try.underlying22
  have u3 := Try.underlying3
  have z := Try.sizeOf37
  rcases Nat.eq_zero_or_pos n with rfl | hp
  · clear hi0 hz0 hz1 hz2
    go_enter Try.func26, Try.ntmps26
    go_wp2_with fail
    go_ret
    exact ⟨_, rfl, OwnPg.nil _ _, Below.refl _ _⟩
  · have hrz : ∀ ty, _ := fun ty => Lib.run_append_nil_zeros (P := Try.prog) w 22 3 ty 37 i0 _ .i64 .i64 u u3 hi0 hz0 n hp (by omega) (by omega) (by rw [hz2]; omega)
    obtain ⟨G, hG⟩ : ∃ G, G = grownCap w n 0 37 := ⟨_, rfl⟩
    have hGge : n ≤ G := by rw [hG]; exact grownCap_ge w _ _ _
    have hGm : G ≤ maxLen := by rw [hG]; exact grownCap_le_maxLen w n 0 _ (by unfold maxLen; omega)
    rw [← hG] at hrz
    obtain ⟨W1, hW1⟩ : ∃ W1, W1 = w.drew.alloc (.cells (Builtin.zeroCells (Value.agg #[.int .i64 0, .int .i64 0]).cells n ++ Builtin.zeroCells (Value.agg #[.int .i64 0, .int .i64 0]).cells (G - n)) 37) := ⟨_, rfl⟩
    rw [← hW1] at hrz
    have HO : Hid (OwnPg W1 w.heap.size (.slice (some ⟨w.heap.size, 0, none⟩) 0 G) []) := by
      refine ⟨by simp, .inr ⟨w.heap.size, G, _, rfl, Nat.le_refl _, by rw [hW1]; exact heap_alloc_new w.drew _, Nat.zero_le _, hGm, ?_, by simp⟩⟩
      rw [zero_cells, zero_cells, Array.size_append, List.size_toArray, List.size_toArray, pg_len, pg_len, List.length_replicate, List.length_replicate]
      omega
    have HB : Hid (Below w.heap.size w W1) := by show Below _ _ _; rw [hW1]; exact (Below.refl _ w).drew.alloc (Nat.le_refl _) _
    have p1 : (0 : Int) < (n : Int) := by omega
    have p2 : (n : Int) ≤ 140737488355328 := by omega
    clear hW1 hi0 hz0 hz1 hz2 hG hGm
    go_enter Try.func26, Try.ntmps26
    go_wp2_with (at_builtin; refine Lib.wpList_append_run _ rfl _ _ _ _ rfl _ _ rfl rfl _ _ (hrz _) ?_)
    go_ret
    exact ⟨_, rfl, HO.out, HB.out⟩

set_option maxHeartbeats 2000000 in
theorem concat_any (w : World) (rb : Nat) (a1 a2 : Option Addr) (c1 c2 : Nat) (X1 X2 : List Bd.Bk) (h1 : PgAt w a1 X1) (h2 : PgAt w a2 X2) (hc1 : a1 = none → c1 = 0) (hc2 : a2 = none → c2 = 0)
    (q1 : w.cell? ⟨rb, 0, none⟩ = some (.slice a1 X1.length c1)) (q2 : w.cell? ⟨rb, 1, none⟩ = some (.slice a2 X2.length c2)) (hl1 : X1.length ≤ 2000) (hl2 : X2.length ≤ 2000) :
    Calls Try.prog 14 #[.slice (some ⟨rb, 0, none⟩) 2 2] w fun e w' => ∃ v, e = .returned v ∧ OwnPg w' w.heap.size v (X1 ++ X2) ∧ Below w.heap.size w w' := by
  have KG := hid fun W => grow_any W (X1.length + X2.length) (by omega) (by omega)
  have H1 := hid h1
  have H2 := hid h2
  have HC1 := hid hc1
  have HC2 := hid hc2
  obtain ⟨n1, hn1⟩ : ∃ n1, n1 = X1.length := ⟨_, rfl⟩
  obtain ⟨n2, hn2⟩ : ∃ n2, n2 = X2.length := ⟨_, rfl⟩
  rw [← hn1] at q1 hl1 KG
  rw [← hn2] at q2 hl2 KG
  have HN1 := hid hn1
  have HN2 := hid hn2
  clear h1 h2 hc1 hc2 hn1 hn2
  have l1 : (n1 : Int) ≤ 2000 := by omega
  have l2 : (n2 : Int) ≤ 2000 := by omega
  go_enter Try.func14, Try.ntmps14
  go_wp2_with fail
  go_loopw [11, 3] (fun i s wr => Hid (w = wr) ∧ ((i = .int .i64 0 ∧ s = .int .i64 0) ∨ (i = .int .i64 1 ∧ s = .int .i64 (n1 : Int)) ∨ (i = .int .i64 2 ∧ s = .int .i64 ((n1 : Int) + (n2 : Int))))) (fun i _ _ => 2 - (intOf i).toNat)
  case atStart => exact ⟨hid rfl, .inl ⟨rfl, rfl⟩⟩
  case round =>
    obtain ⟨hw, hrel⟩ := hrel
    obtain rfl := hw.out
    clear hw
    obtain ⟨rfl, rfl⟩ | ⟨rfl, rfl⟩ | ⟨rfl, rfl⟩ := hrel
    · go_wp2_with fail
      go_roundw
      case rel => exact ⟨hid trivial, .inr (.inl ⟨rfl, rfl⟩)⟩
      case measure => simp [intOf]
    · go_wp2_with fail
      go_roundw
      case rel => exact ⟨hid trivial, .inr (.inr ⟨rfl, rfl⟩)⟩
      case measure => simp [intOf]
    · go_wp2_with fail
      have KG' := KG.out w
      rw [show ((n1 + n2 : Nat) : Int) = (n1 : Int) + (n2 : Int) by omega] at KG'
      have KGh := hid KG'
      clear KG KG'
      refine KGh.out.mono ?_
      rintro r w1 ⟨v1, rfl, ho, hb⟩
      have O1 := hid ho
      have B1 := hid hb
      obtain ⟨a3, k3, rfl, _⟩ := ho.at_
      clear ho hb KGh
      simp only [List.length_nil]
      go_wp2_with fail
      go_loopw [27, 6] (fun i u ws => (∃ ua uc L, u = .slice ua (List.length L) uc ∧ Hid (OwnPg ws w.heap.size u L) ∧ Hid (Below w.heap.size w ws) ∧ ((i = .int .i64 0 ∧ Hid (L = [])) ∨ (i = .int .i64 1 ∧ Hid (L = X1)) ∨ (i = .int .i64 2 ∧ Hid (L = X1 ++ X2))))) (fun i _ _ => 2 - (intOf i).toNat)
      case atStart => exact ⟨a3, k3, [], rfl, O1, B1, .inl ⟨rfl, rfl⟩⟩
      case round =>
        obtain ⟨ua, uc, L, rfl, hO, hB, ⟨rfl, hL⟩ | ⟨rfl, hL⟩ | ⟨rfl, hL⟩⟩ := hrel
        · obtain rfl := hL.out
          have d1 := keep1 hB.out q1
          have hsz := hB.out.size
          have ho := hO.out
          clear hL
          go_wp2_with (at_builtin; refine wpList_append_pg rfl _ _ rfl w.heap.size _ _ rfl hO.out a1 c1 X1 (by rw [← HN1.out]; rfl) (H1.out.below hB.out) HC1.out ?qc4 hsz ?_)
          case qc4 => have := HN1.out; simp; omega
          intro v' w4 hown hgrow
          have O4 := hid hown
          have B4 : Hid (Below w.heap.size w w4) := hB.out.grown hgrow hsz (fun q hq => (ho.lt q hq).1)
          obtain ⟨a4, k4, rfl, _⟩ := hown.at_
          clear hown hgrow hO hB ho
          go_wp2_with fail
          go_roundw
          case rel => exact ⟨a4, k4, _, rfl, O4, B4, .inr (.inl ⟨rfl, by show _ = _; simp⟩)⟩
          case measure => simp [intOf]
        · obtain rfl := hL.out
          have d1 := keep1 hB.out q2
          have hsz := hB.out.size
          have ho := hO.out
          clear hL
          go_wp2_with (at_builtin; refine wpList_append_pg rfl _ _ rfl w.heap.size _ _ rfl hO.out a2 c2 X2 (by rw [← HN2.out]; rfl) (H2.out.below hB.out) HC2.out ?qc4 hsz ?_)
          case qc4 => have := HN1.out; have := HN2.out; omega
          intro v' w4 hown hgrow
          have O4 := hid hown
          have B4 : Hid (Below w.heap.size w w4) := hB.out.grown hgrow hsz (fun q hq => (ho.lt q hq).1)
          obtain ⟨a4, k4, rfl, _⟩ := hown.at_
          clear hown hgrow hO hB ho
          go_wp2_with fail
          go_roundw
          case rel => exact ⟨a4, k4, _, rfl, O4, B4, .inr (.inr ⟨rfl, hid rfl⟩)⟩
          case measure => simp [intOf]
        · obtain rfl := hL.out
          clear hL
          go_wp2_with fail
          go_ret
          exact ⟨_, rfl, hO.out, hB.out⟩

end Go.Proofs.Ytodimkkgmidgcab.PBuddy
