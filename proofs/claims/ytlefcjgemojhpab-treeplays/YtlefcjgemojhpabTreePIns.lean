/- Rows of pointers to nodes: slices.Clone, Delete, Insert of them, walked: each answers what the plain lists say, in a row of one's own; no other block turns. Conditions: how many there are. -/
import Derived.Test.YtlefcjgemojhpabTreePMem
import Derived.Deep.RegionHeld3
import Derived.Deep.RegionLaw
import Derived.Lib.SliceRun
import Derived.Lib.Overlaps
import Derived.Lib.AppendZerosOnto
import Derived.OrdersHeld
namespace Go.Proofs.Ytlefcjgemojhpab.PTree
open Go Go.RowKit PPool
set_option maxRecDepth 100000
namespace TP

set_option maxHeartbeats 1000000 in
theorem clone_any (w : World) (a : Option Addr) (c : Nat) (X : List Pt) (h : PgAt w a X) (hn : X.length * 8 ≤ 140737488355328) :
    Calls Try.prog 75 #[.slice a X.length c] w fun e w' => ∃ v, e = .returned v ∧ OwnPg w' w.heap.size v X ∧ Below w.heap.size w w' := by
  obtain ⟨i0, hi, hz0, hz1, hz2⟩ := info_parts block_info
  have q22 : ∀ (w : World) (a : Option Addr) (n c n' c' : Nat), (binOp .eql 75 (.slice a n c) (.slice none n' c')).run Try.prog w = .ok (.bool a.isNone) w := fun w a n c n' c' => Lib.run_eql_slice_nil w _ _ a n c n' c' Try.underlying75
  cases a with
  | none =>
    have hX : X = [] := by
      cases X with
      | nil => rfl
      | cons x X => obtain ⟨b, o, e, _⟩ := h 0 x rfl; cases e
    subst hX
    clear h hi hz0 hz1 hz2
    go_enter Try.func75, Try.ntmps75
    go_wp2_with fail
    go_ret
    exact ⟨_, rfl, OwnR.nil _ _, Below.refl _ _⟩
  | some q =>
    have H := hid h
    clear h
    go_enter Try.func75, Try.ntmps75
    go_wp2_with (at_builtin; refine wpList_append_own _ rfl _ _ 75 rfl w.heap.size 82 i0 (.pointer none) 1 8 Try.underlying75 hi hz0 hz1 hz2 rfl (by decide) _ _ _ rfl (World.ownsRow_made w #[] 0 (Nat.le_refl _) (Nat.zero_le _) rfl) q X.length c (X.map pc) rfl ?qc1 ?qc2 ?qc3 ?qc4 ?qc5 ?qc6 ?_)
    case qc1 => rw [pg_len, Nat.mul_one]
    case qc2 =>
      intro j u hj
      have hX : 0 < X.length := by have := (List.getElem?_eq_some_iff.1 hj).1; rw [pg_len] at this; omega
      obtain ⟨x, hx⟩ : ∃ x, X[0]? = some x := ⟨_, List.getElem?_eq_getElem hX⟩
      obtain ⟨b, o, e, _⟩ := H.out _ _ hx
      cases e
      exact (PgAt.flat (H.out.below (bx w _))) j u hj
    case qc3 => exact pg_one X
    case qc4 => unfold maxLen; omega
    case qc5 => omega
    case qc6 => simp
    intro v' w1 hown hgrow hnil
    have HO := hid hown
    have HB : Hid (Below w.heap.size w w1) := ((Below.refl _ w).alloc (Nat.le_refl _) _).grown hgrow (by simp) (by intro k hk; simp [Value.ownBlock] at hk; omega)
    clear hown hgrow hnil
    go_wp2
    go_ret
    refine ⟨v', rfl, ?_, HB.out⟩
    have := HO.out
    simpa [OwnPg, OwnR] using this

theorem goes_lay {w w1 : World} {g : Nat} (h : Goes (fun b => b = g) w w1 (fun b => b = g)) (k : Nat) (cs : List Value) : Goes (fun b => b = g) w (w1.setCells g k cs) (fun b => b = g) := goes_set (own := fun b => b = g) h (.inl rfl) k cs
theorem own_front {w : World} {base g c m : Nat} {X : List Pt} (h : OwnPg w base (.slice (some ⟨g, 0, none⟩) X.length c) X) (k : Nat) (hk : k ≤ X.length) (hm : m = k) : OwnPg w base (.slice (some ⟨g, 0, none⟩) m c) (X.take k) := by
  subst hm
  obtain ⟨cur, hh, h3, _, h1, h2, hg, h4⟩ := own_block h
  refine ⟨by rw [pg_len, Nat.mul_one], .inr ⟨g, c, cur, by rw [List.length_take, Nat.min_eq_left hk], hg, hh, by rw [List.length_take]; omega, h2, by omega, ?_⟩⟩
  rw [List.map_take, ← h4, List.take_take, List.length_take, Nat.mul_one]

/-- The zeros behind what is left. -/
theorem run_clear_pg {w : World} {base g n c : Nat} {X : List Pt} (h : OwnPg w base (.slice (some ⟨g, 0, none⟩) n c) X) (ty : TypeId) (k q cc : Nat) (hk : k + q ≤ c) (hq : 0 < q) :
    (Builtin.clear_ #[75] ty #[.slice (some ⟨g, k, none⟩) q cc]).run Try.prog w = .ok (.tuple #[]) (w.setCells g (k) ((List.replicate q (none : Pt)).map pc)) := by
  obtain ⟨cur, hh, h3, rfl, h1, h2, hg, h4⟩ := own_block h
  have hz : (Builtin.zeroCells (Value.pointer none).cells q).toList = (List.replicate q (none : Pt)).map pc := by rw [zero_cells]
  have hv := Try.zeroValue82
  obtain ⟨q', rfl⟩ : ∃ q', q = q' + 1 := ⟨q - 1, by omega⟩
  have hst := run_storeCells_cells (P := Try.prog) g (k) ((List.replicate (q' + 1) (none : Pt)).map pc) 0 w (fun j hj => by rw [pg_len, List.length_replicate] at hj; rw [cell_of_row w g _ cur _ _ hh]; simp; omega) (fun j _ => by simp [World.frozen?, hh]) (pg_one _)
  simp only [Nat.add_zero] at hst
  generalize (List.replicate (q' + 1) (none : Pt)).map pc = Z at *
  simp [Builtin.clear_, run_underlying Try.underlying75, hv, hz, hst]

theorem del_row {X : List Pt} {k j n m : Nat} (hn : X.length = n) (hm : k + (n - j) = m) (hk : k < j) (hj : j ≤ n) : (X.take k ++ X.drop j ++ X.drop (k + (X.drop j).length)).take m = X.take k ++ X.drop j := by
  rw [List.take_left']
  simp; omega

set_option maxHeartbeats 1000000 in
theorem delete_any (w : World) (base g c k j n m : Nat) (X : List Pt) (hn : X.length = n) (h : OwnPg w base (.slice (some ⟨g, 0, none⟩) n c) X) (hk : k < j) (hj : j ≤ n) (hm : k + (n - j) = m) (hl : n ≤ 2000) :
    Calls Try.prog 76 #[.slice (some ⟨g, 0, none⟩) n c, .int .i64 (k : Int), .int .i64 (j : Int)] w fun e w' => e = .returned (.slice (some ⟨g, 0, none⟩) m c) ∧ OwnPg w' base (.slice (some ⟨g, 0, none⟩) m c) (X.take k ++ X.drop j) ∧ Goes (fun b => b = g) w w' (fun b => b = g) := by
  have h : OwnPg w.drew base (.slice (some ⟨g, 0, none⟩) n c) X := h.keep fun _ _ => rfl
  obtain ⟨cur, hh, h3, hx4, h1, h2, hg, h4⟩ := own_block h
  clear hx4
  obtain ⟨i0, hi, hz0, hz1, hz2⟩ := info_parts block_info
  have u := Try.underlying75
  have z := Try.sizeOf82
  have hcm : (c : Int) ≤ 9223372036854775807 := by unfold maxLen at h2; omega
  have hmc : (n : Int) ≤ (c : Int) := by omega
  have hdl : (X.drop j).length = n - j := by rw [List.length_drop]; omega
  -- what is behind
  obtain ⟨A, hA, hsrc⟩ : ∃ A : Addr, (if c = j then some (⟨g, 0, none⟩ : Addr) else some ⟨g, j, none⟩) = some A ∧ (∀ q u, ((X.drop j).map pc)[q]? = some u → w.drew.cell? (A.add q) = some u) := by
    by_cases hc : c = j
    · refine ⟨⟨g, 0, none⟩, by rw [if_pos hc], fun q u hj => ?_⟩
      rw [List.drop_of_length_le (by omega)] at hj
      simp at hj
    · refine ⟨⟨g, j, none⟩, by rw [if_neg hc], fun q u hj => ?_⟩
      have := PgAt.flat ((own_pg h).drop j) q u hj
      rw [Nat.zero_add] at this
      exact this
  have hv1 : ∀ W : World, (Instr.slice 75 (.slice (some ⟨g, 0, none⟩) n c) none (some (.int .i64 (k : Int))) none).run Try.prog W = .ok (.slice (some ⟨g, 0, none⟩) k c) W := fun W => by
    have k0 : (k : Int) ≤ (c : Int) := by omega
    go_simp
  have hv2 : ∀ W : World, (Instr.slice 75 (.slice (some ⟨g, 0, none⟩) n c) (some (.int .i64 (j : Int))) none none).run Try.prog W = .ok (.slice (some A) (n - j) (c - j)) W := fun W => by
    have := slice_from W g n c j (by omega)
    rw [hA] at this
    exact this
  have s1 : Hid (((X.drop j).map pc).length = (n - j) * 1) := by show _ = _; rw [pg_len, hdl, Nat.mul_one]
  have s2 : Hid (∀ u ∈ (X.drop j).map pc, u.oneCell' = true) := pg_one _
  have s3 : Hid (∀ q, q < ((X.drop j).map pc).length → (w.drew.cell? ⟨g, 0 + k * 1 + q, none⟩).isSome = true ∧ w.drew.frozen? ⟨g, 0 + k * 1 + q, none⟩ = false) := fun q hj => by
    rw [pg_len, hdl] at hj
    exact ⟨by rw [cell_of_row w.drew g _ cur _ _ hh]; simp; omega, by simp [World.frozen?, hh]⟩
  have HS := hid hsrc
  have O1 := own_lay h k (X.drop j) (by omega) (by rw [hdl]; omega)
  have e1 : (X.take k ++ X.drop j ++ X.drop (k + (X.drop j).length)).length = n := by simp; omega
  have e2 := del_row hn hm hk hj
  have G1 : Goes (fun b => b = g) w (w.drew.setCells g (k) ((X.drop j).map pc)) (fun b => b = g) := goes_lay (Goes.refl _ w).drew _ _
  generalize X.take k ++ X.drop j ++ X.drop (k + (X.drop j).length) = Y at *
  generalize (X.drop j).map pc = cs at *
  obtain ⟨w1, hw1⟩ : ∃ w1, w1 = w.drew.setCells g (0 + k * 1) cs := ⟨_, rfl⟩
  have hw2 : w.drew.setCells g (k) cs = w1 := by rw [hw1, Nat.zero_add, Nat.mul_one]
  rw [hw2] at O1 G1
  have HW := hid hw1
  clear hw1 hw2
  have hcl := fun ty => run_clear_pg O1 ty m (n - m) (c - m) (by omega) (by omega)
  have O2 := own_lay O1 m (List.replicate (n - m) (none : Pt)) (by omega) (by simp; omega)
  have HO : Hid (OwnPg (w1.setCells g (m) ((List.replicate (n - m) (none : Pt)).map pc)) base (.slice (some ⟨g, 0, none⟩) m c) (X.take k ++ X.drop j)) := by
    have e3 : (Y.take m ++ List.replicate (n - m) (none : Pt) ++ Y.drop (m + (List.replicate (n - m) (none : Pt)).length)).take m = Y.take m := by
      rw [List.append_assoc, List.take_append_of_le_length (by rw [List.length_take]; omega), List.take_take, Nat.min_self]
    have := own_front O2 m (by simp; omega) rfl
    rw [e3, e2] at this
    exact this
  have HG := hid (goes_lay G1 (m) ((List.replicate (n - m) (none : Pt)).map pc))
  generalize (List.replicate (n - m) (none : Pt)).map pc = zs at *
  have b1 : (0 : Int) ≤ (k : Int) := by omega
  have b2 : (k : Int) ≤ (j : Int) := by omega
  have b2' : (j : Int) ≤ (n : Int) := by omega
  have b3 : ((k : Int) == (j : Int)) = false := by rw [beq_eq_false_iff_ne]; omega
  have b4 : ¬ (c = m) := by omega
  have b5 : (n : Int) ≤ 2000 := by omega
  have b6 : (m : Int) ≤ (n : Int) := by omega
  have hkm : k + (n - j) = m := hm
  clear hh h3 h1 h2 hg h4 hz0 hz2 hsrc hA O1 O2 G1 h e1 e2 hdl hm hn
  go_enter Try.func76, Try.ntmps76
  go_wp2_with fail
  go_region_law (refine step_append_room rfl (.tmp 22) (.tmp 25) 75 rfl 82 i0 1 Try.underlying75 hi hz1 g 0 k c (by simp [Act.eval, Act.put]) A (n - j) (c - j) cs (by simp [Act.eval, Act.put]) s1.out HS.out s2.out (by omega) s3.out ?_; rw [← HW.out, hkm])
  go_wp2_with fail
  go_ret
  exact ⟨rfl, HO.out, HG.out⟩

/-- The block that is handed in, in memory of its own. -/
def OneAt (w : World) (vb : Nat) (b : Pt) : Prop := w.heap[vb]? = some (.cells #[.pointer b] 82 (0, 0))
theorem OneAt.at_ {w : World} {vb : Nat} {b : Pt} (h : OneAt w vb b) : PgAt w (some ⟨vb, 0, none⟩) [b] := fun j x hj => by
  match j, hj with
  | 0, hj =>
    cases hj
    exact ⟨vb, 0, rfl, by rw [cell_of_row w _ _ _ _ _ h]; rfl⟩
theorem OneAt.lt {w : World} {vb : Nat} {b : Pt} (h : OneAt w vb b) : vb < w.heap.size := lt_of_heap h

set_option maxHeartbeats 1000000 in
theorem insert_end (w : World) (base : Nat) (a : Option Addr) (c n vb : Nat) (X : List Pt) (b : Pt) (hn : X.length = n) (h : OwnPg w base (.slice a n c) X) (hv : OneAt w vb b) (hl : n ≤ 2000) (hbase : base ≤ w.heap.size) (hc : n ≤ c) :
    Calls Try.prog 77 #[.slice a n c, .int .i64 (n : Int), .slice (some ⟨vb, 0, none⟩) 1 1] w fun e w' => ∃ v', e = .returned v' ∧ OwnPg w' base v' (X ++ [b]) ∧ Goes (ownB (.slice a n c)) w w' (ownB v') := by
  obtain ⟨i0, hi, hz0, hz1, hz2⟩ := info_parts block_info
  have hsl : ∀ W : World, ∃ V, (Instr.slice 75 (.slice a n c) (some (.int .i64 (n : Int))) none none).run Try.prog W = .ok V W := fun W => by
    have u := Try.underlying75
    have z := Try.sizeOf82
    have k1 : (n : Int) ≤ (c : Int) := by omega
    cases a with
    | none => exact ⟨.slice none 0 (c - n), by go_simp⟩
    | some q => exact ⟨.slice (if c = n then some q else some (q.add (n))) 0 (c - n), by go_simp⟩
  obtain ⟨V, hV⟩ := hsl w
  have H := hid h
  have HV := hid hv
  have HN := hid hn
  have hnl : (n : Int) ≤ 2000 := by omega
  clear h hv hsl hn
  go_enter Try.func77, Try.ntmps77
  go_wp2_with (at_builtin; refine wpList_append_own_at _ rfl _ _ 75 rfl base 82 i0 (.pointer none) 1 8 Try.underlying75 hi hz0 hz1 hz2 rfl (by decide) _ _ _ rfl H.out ⟨vb, 0, none⟩ 1 1 [pc b] rfl rfl ?qc2 ?qc3 ?qc4 ?qc5 ?qc6 ?_)
  case qc2 =>
    have := PgAt.flat HV.out.at_
    simpa using this
  case qc3 => exact pg_one [b]
  case qc4 => rw [HN.out]; unfold maxLen; omega
  case qc5 => rw [HN.out]; omega
  case qc6 => exact hbase
  intro v' w4 hown hgrow _ hat
  have O5 := hid (OwnR.grows hown)
  have gg := (Goes.refl (ownB (.slice a n c)) w).grown hgrow (fun k hk => .inl hk)
  have G5 : Hid (Goes (ownB (.slice a n c)) w w4 (ownB v')) := ⟨gg.os, gg.tape, gg.output, gg.size, gg.block, fun g hg => by
    rcases hat with e | e
    · exact gg.grow g (e.symm.trans hg)
    · right
      have e2 : some g = some _ := hg.symm.trans e
      injection e2 with e2
      omega⟩
  clear hown hgrow gg hat
  go_wp2
  go_ret
  exact ⟨v', rfl, O5.out, G5.out⟩

theorem shift_lay {X : List Pt} {b : Pt} {i n : Nat} (hn : X.length = n) (hi : i < n) :
    (X.take (i + 1) ++ X.drop i ++ X.drop (i + 1 + (X.drop i).length)).take i ++ [b] ++ (X.take (i + 1) ++ X.drop i ++ X.drop (i + 1 + (X.drop i).length)).drop (i + [b].length) = X.take i ++ b :: X.drop i := by
  have e1 : X.drop (i + 1 + (X.drop i).length) = [] := List.drop_of_length_le (by rw [List.length_drop]; omega)
  have l1 : (X.take (i + 1)).length = i + 1 := by rw [List.length_take]; omega
  rw [e1, List.append_nil, List.take_append_of_le_length (by omega), List.take_take, Nat.min_eq_left (by omega), List.length_singleton, List.drop_append_of_le_length (by omega), List.drop_of_length_le (by omega)]
  simp

set_option maxHeartbeats 1000000 in
theorem insert_shift (w : World) (base g c n i vb : Nat) (X : List Pt) (b : Pt) (hn : X.length = n) (h : OwnPg w base (.slice (some ⟨g, 0, none⟩) n c) X) (hv : OneAt w vb b) (hvg : vb ≠ g) (hl : n ≤ 2000) (hi : i < n) (hc : n + 1 ≤ c) :
    Calls Try.prog 77 #[.slice (some ⟨g, 0, none⟩) n c, .int .i64 (i : Int), .slice (some ⟨vb, 0, none⟩) 1 1] w fun e w' => e = .returned (.slice (some ⟨g, 0, none⟩) (n + 1) c) ∧ OwnPg w' base (.slice (some ⟨g, 0, none⟩) (n + 1) c) (X.take i ++ b :: X.drop i) ∧ Goes (fun k => k = g) w w' (fun k => k = g) := by
  obtain ⟨cur, hh, h3, hx4, h1, h2, hg, h4⟩ := own_block h
  clear hx4
  have hgl := lt_of_heap hh
  have u := Try.underlying75
  have z := Try.sizeOf82
  have hcm : (c : Int) ≤ 9223372036854775807 := by unfold maxLen at h2; omega
  have hnc : (n : Int) + 1 ≤ (c : Int) := by omega
  have hdl : (X.drop i).length = n - i := by rw [List.length_drop]; omega
  have hov : ∀ lb cb, (callFunc 80 #[.slice (some ⟨vb, 0, none⟩) 1 1, .slice (some ⟨g, (i + 1), none⟩) lb cb]).run Try.prog w = .ok (.value (.bool false)) w := fun lb cb => by
    rw [run_callFunc_extern Try.func80 (by kernel_rfl) (by kernel_rfl) (by kernel_rfl) (e := Extern.SlicesOverlaps.overlaps #[75, 75] #[4]) (by kernel_rfl),
      Lib.run_overlaps_apart w 75 4 82 Try.underlying75 1 Try.sizeOf82 ⟨vb, 0, none⟩ ⟨g, (i + 1), none⟩ 1 1 lb cb hvg 82 82 1 c (by unfold World.shape?; rw [hv]; rfl) (by unfold World.shape?; rw [hh]; simp [h3]) (by omega) (by simp [World.frozen?, show w.heap[vb]? = _ from hv]) (by simp [World.frozen?, show w.heap[vb]? = _ from hv])]
    rfl
  have hd : OwnPg w.drew base (.slice (some ⟨g, 0, none⟩) n c) X := h.keep fun _ _ => rfl
  have c1 : ∀ ty, (Builtin.copy_ #[75, 75] ty #[.slice (some ⟨g, (i + 1), none⟩) (n - i) (c - (i + 1)), .slice (some ⟨g, i, none⟩) (n + 1 - i) (c - i)]).run Try.prog w.drew = .ok (goInt (X.drop i).length) (w.drew.setCells g ((i + 1)) ((X.drop i).map pc)) := fun ty =>
    run_copy_pg hd ty (i + 1) (n - i) (c - (i + 1)) ⟨g, i, none⟩ (n + 1 - i) (c - i) (X.drop i) (by rw [hdl]; show _ = min _ _; omega) (by rw [hdl]; omega) (by have := PgAt.flat ((own_pg hd).drop i); rwa [Nat.zero_add] at this)
  have O1 := own_lay hd (i + 1) (X.drop i) (by omega) (by rw [hdl]; omega)
  have G1 : Goes (fun k => k = g) w (w.drew.setCells g ((i + 1)) ((X.drop i).map pc)) (fun k => k = g) := goes_lay (Goes.refl _ w).drew _ _
  have hsl := shift_lay (b := b) hn hi
  have hlen : (X.take (i + 1) ++ X.drop i ++ X.drop (i + 1 + (X.drop i).length)).length = n + 1 := by simp; omega
  generalize X.take (i + 1) ++ X.drop i ++ X.drop (i + 1 + (X.drop i).length) = Y at *
  have hvd : OneAt (w.drew.setCells g ((i + 1)) ((X.drop i).map pc)) vb b := (G1.block vb hv.lt hvg).trans hv
  generalize w.drew.setCells g ((i + 1)) ((X.drop i).map pc) = W1 at *
  have c2 : ∀ ty, (Builtin.copy_ #[75, 75] ty #[.slice (some ⟨g, i, none⟩) (n + 1 - i) (c - i), .slice (some ⟨vb, 0, none⟩) 1 1]).run Try.prog W1 = .ok (goInt 1) (W1.setCells g (i) ([b].map pc)) := fun ty =>
    run_copy_pg O1 ty i (n + 1 - i) (c - i) ⟨vb, 0, none⟩ 1 1 [b] (by show 1 = min _ _; omega) (by show i + 1 ≤ c; omega) (PgAt.flat hvd.at_)
  have O2 := own_lay O1 i [b] (by omega) (by show i + 1 ≤ c; omega)
  have HO : Hid (OwnPg (W1.setCells g (i) ([b].map pc)) base (.slice (some ⟨g, 0, none⟩) (n + 1) c) (X.take i ++ b :: X.drop i)) := by
    rw [hsl] at O2
    have e : (X.take i ++ b :: X.drop i).length = n + 1 := by simp; omega
    rw [e] at O2
    exact O2
  have HG := hid (goes_lay G1 (i) ([b].map pc))
  generalize [b].map pc = zs at *
  have b1 : (0 : Int) ≤ (i : Int) := by omega
  have b2 : (i : Int) ≤ (n : Int) := by omega
  have b3 : ((i : Int) == (n : Int)) = false := by rw [beq_eq_false_iff_ne]; omega
  have b4 : ¬ (c = i) := by omega
  have b5 : ¬ (c = i + 1) := by omega
  have b6 : (n : Int) ≤ 2000 := by omega
  have b7 : ¬ ((c : Int) < (n : Int) + 1) := by omega
  have b8 : (i : Int) + 1 ≤ (n : Int) + 1 := by omega
  generalize (X.drop i).length = q at *
  clear hh h3 h1 h2 hg h4 O1 O2 G1 h hd hsl hlen hvd hv hdl hn hgl
  go_enter Try.func77, Try.ntmps77
  go_wp2_with (simp only [hov])
  go_region
  go_wp2_with fail
  go_ret
  exact ⟨rfl, HO.out, HG.out⟩

theorem grow_lay {X : List Pt} {b : Pt} {i n : Nat} (hn : X.length = n) (hi : i < n) :
    ((X.take i ++ List.replicate (n + 1 - i) (none : Pt)).take i ++ [b] ++ (X.take i ++ List.replicate (n + 1 - i) (none : Pt)).drop (i + [b].length)).take (i + 1) ++ X.drop i ++ ((X.take i ++ List.replicate (n + 1 - i) (none : Pt)).take i ++ [b] ++ (X.take i ++ List.replicate (n + 1 - i) (none : Pt)).drop (i + [b].length)).drop (i + 1 + (X.drop i).length) = X.take i ++ b :: X.drop i := by
  have l1 : (X.take i).length = i := by rw [List.length_take]; omega
  have e1 : (X.take i ++ List.replicate (n + 1 - i) (none : Pt)).take i = X.take i := List.take_left' l1
  rw [e1]
  have l2 : (X.take i ++ [b]).length = i + 1 := by rw [List.length_append, l1]; rfl
  rw [List.take_left' l2, List.drop_of_length_le (i := i + 1 + (X.drop i).length)]
  · simp
  · simp
    omega

set_option maxHeartbeats 1000000 in
theorem insert_grow (w : World) (base g c n i vb : Nat) (X : List Pt) (b : Pt) (hn : X.length = n) (h : OwnPg w base (.slice (some ⟨g, 0, none⟩) n c) X) (hv : OneAt w vb b) (hl : n ≤ 2000) (hi : i < n) (hc : c < n + 1) (hbase : base ≤ w.heap.size) :
    Calls Try.prog 77 #[.slice (some ⟨g, 0, none⟩) n c, .int .i64 (i : Int), .slice (some ⟨vb, 0, none⟩) 1 1] w fun e w' => ∃ G, e = .returned (.slice (some ⟨w.heap.size, 0, none⟩) (n + 1) G) ∧ OwnPg w' base (.slice (some ⟨w.heap.size, 0, none⟩) (n + 1) G) (X.take i ++ b :: X.drop i) ∧ Below w.heap.size w w' := by
  obtain ⟨cur, hh, h3, hx4, h1, h2, hg, h4⟩ := own_block h
  obtain rfl : c = n := by omega
  clear hx4
  have hgl := lt_of_heap hh
  obtain ⟨i0, hi0, hz0, hz1, hz2⟩ := info_parts block_info
  have u := Try.underlying75
  have u3 := Try.underlying3
  have z := Try.sizeOf82
  have hdl : (X.drop i).length = c - i := by rw [List.length_drop]; omega
  have htl : (X.take i).length = i := by rw [List.length_take]; omega
  have hd : OwnPg w.drew base (.slice (some ⟨g, 0, none⟩) c c) X := h.keep fun _ _ => rfl
  have hold : (Builtin.firstCells i0.size i (.slice (some ⟨g, 0, none⟩) i c)).run Try.prog w.drew = .ok ((X.take i).map pc).toArray w.drew := by
    rw [hz1]
    exact run_firstCells_some w.drew 1 i ⟨g, 0, none⟩ i c ((X.take i).map pc) (by rw [pg_len, htl, Nat.mul_one]) (PgAt.flat ((own_pg hd).take i))
  obtain ⟨G, hG⟩ : ∃ G, G = grownCap w (c + 1) c 82 := ⟨_, rfl⟩
  have hGge : c + 1 ≤ G := by rw [hG]; exact grownCap_ge w _ _ _
  have hGm : G ≤ maxLen := by rw [hG]; exact grownCap_le_maxLen w (c + 1) c _ (by unfold maxLen; omega)
  have hkk : (c : Int) + 1 - (i : Int) = ((c + 1 - i : Nat) : Int) := by omega
  have hik : i + (c + 1 - i) = c + 1 := by omega
  have hrz : ∀ ty, (Builtin.append_ #[75, 3] ty #[.slice (some ⟨g, 0, none⟩) i c, .int .i64 ((c : Int) + 1 - (i : Int))]).run Try.prog w = .ok (.slice (some ⟨w.heap.size, 0, none⟩) (c + 1) G) (w.drew.alloc (.cells (((X.take i).map pc).toArray ++ Builtin.zeroCells (Value.pointer none).cells (c + 1 - i) ++ Builtin.zeroCells (Value.pointer none).cells (G - (c + 1))) 82)) := fun ty => by
    have hr := Lib.run_append_grow_zeros (P := Try.prog) w 75 3 ty 82 i0 _ .i64 .i64 u u3 hi0 hz0 (some ⟨g, 0, none⟩) i c ((X.take i).map pc) hold (c + 1 - i) (by omega) (by omega) (by omega) (by omega) (by rw [hz2]; omega) (by rw [hz2, hik]; exact growslice_fits (by omega) (by omega))
    rw [hik, ← hG] at hr
    rw [hkk]
    exact hr
  obtain ⟨W1, hW1⟩ : ∃ W1, W1 = w.drew.alloc (.cells (((X.take i).map pc).toArray ++ Builtin.zeroCells (Value.pointer none).cells (c + 1 - i) ++ Builtin.zeroCells (Value.pointer none).cells (G - (c + 1))) 82) := ⟨_, rfl⟩
  rw [← hW1] at hrz
  have O1 : OwnPg W1 base (.slice (some ⟨w.heap.size, 0, none⟩) (c + 1) G) (X.take i ++ List.replicate (c + 1 - i) (none : Pt)) := by
    have hl1 : (X.take i ++ List.replicate (c + 1 - i) (none : Pt)).length = c + 1 := by rw [List.length_append, htl, List.length_replicate]; omega
    have hl2 := pg_len (X.take i ++ List.replicate (c + 1 - i) (none : Pt))
    rw [List.map_append] at hl2
    refine ⟨by rw [pg_len, Nat.mul_one], .inr ⟨w.heap.size, G, _, by rw [hl1], hbase, by rw [hW1]; exact heap_alloc_new w.drew _, by omega, hGm, ?_, ?_⟩⟩
    · rw [zero_cells, zero_cells, Array.size_append, Array.size_append, List.size_toArray, List.size_toArray, List.size_toArray, ← List.length_append, hl2, hl1, pg_len, List.length_replicate]
      omega
    · rw [hl1, zero_cells, zero_cells, List.map_append]
      simp only [List.append_toArray]
      rw [List.take_left' (by rw [hl2, hl1, Nat.mul_one])]
  have B1 : Below w.heap.size w W1 := by rw [hW1]; exact (Below.refl _ w).drew.alloc (Nat.le_refl _) _
  clear hW1 hold hi0 hz0 hz1 hz2 hG hkk
  have hvd : OneAt W1 vb b := (B1.block vb hv.lt).trans hv
  have hvg : vb < w.heap.size := hv.lt
  have c1 : ∀ ty, (Builtin.copy_ #[75, 75] ty #[.slice (some ⟨w.heap.size, i, none⟩) (c + 1 - i) (G - i), .slice (some ⟨vb, 0, none⟩) 1 1]).run Try.prog W1 = .ok (goInt 1) (W1.setCells w.heap.size (i) ([b].map pc)) := fun ty =>
    run_copy_pg O1 ty i (c + 1 - i) (G - i) ⟨vb, 0, none⟩ 1 1 [b] (by show 1 = min _ _; omega) (by show i + 1 ≤ G; omega) (PgAt.flat hvd.at_)
  have O2 := own_lay O1 i [b] (by simp; omega) (by show i + 1 ≤ G; omega)
  have B2 : Below w.heap.size w (W1.setCells w.heap.size (i) ([b].map pc)) := (goes_set (own := fun k => k = w.heap.size) (goes_of_below (own := fun k => k = w.heap.size) B1) (.inl rfl) _ _).below (Nat.le_refl _) (fun k hk => by omega)
  have hsl := grow_lay (b := b) hn hi
  have hY : ((X.take i ++ List.replicate (c + 1 - i) (none : Pt)).take i ++ [b] ++ (X.take i ++ List.replicate (c + 1 - i) (none : Pt)).drop (i + [b].length)).length = c + 1 := by simp; omega
  generalize (X.take i ++ List.replicate (c + 1 - i) (none : Pt)).take i ++ [b] ++ (X.take i ++ List.replicate (c + 1 - i) (none : Pt)).drop (i + [b].length) = Y at *
  generalize W1.setCells w.heap.size (i) ([b].map pc) = W2 at *
  have O2d : OwnPg W2.drew base (.slice (some ⟨w.heap.size, 0, none⟩) Y.length G) Y := O2.keep fun _ _ => rfl
  have hX2 : PgAt W2.drew (some ⟨g, 0, none⟩) X := PgAt.drew ((own_pg h).below B2)
  have c2 : ∀ ty, (Builtin.copy_ #[75, 75] ty #[.slice (some ⟨w.heap.size, (i + 1), none⟩) (c - i) (G - (i + 1)), .slice (some ⟨g, i, none⟩) (c - i) (c - i)]).run Try.prog W2.drew = .ok (goInt (X.drop i).length) (W2.drew.setCells w.heap.size ((i + 1)) ((X.drop i).map pc)) := fun ty =>
    run_copy_pg O2d ty (i + 1) (c - i) (G - (i + 1)) ⟨g, i, none⟩ (c - i) (c - i) (X.drop i) (by rw [hdl]; show _ = min _ _; omega) (by rw [hdl]; omega) (by have := PgAt.flat (hX2.drop i); rwa [Nat.zero_add] at this)
  have O3 := own_lay O2d (i + 1) (X.drop i) (by omega) (by rw [hdl]; omega)
  have HB : Hid (Below w.heap.size w (W2.drew.setCells w.heap.size ((i + 1)) ((X.drop i).map pc))) := (goes_set (own := fun k => k = w.heap.size) (goes_of_below (own := fun k => k = w.heap.size) B2.drew) (.inl rfl) _ _).below (Nat.le_refl _) (fun k hk => by omega)
  have HO : Hid (OwnPg (W2.drew.setCells w.heap.size ((i + 1)) ((X.drop i).map pc)) base (.slice (some ⟨w.heap.size, 0, none⟩) (c + 1) G) (X.take i ++ b :: X.drop i)) := by
    rw [hsl] at O3
    have e : (X.take i ++ b :: X.drop i).length = c + 1 := by simp; omega
    rw [e] at O3
    exact O3
  generalize (X.drop i).map pc = xs at *
  generalize (X.drop i).length = q at *
  have b1 : (0 : Int) ≤ (i : Int) := by omega
  have b2 : (i : Int) ≤ (c : Int) := by omega
  have b3 : ((i : Int) == (c : Int)) = false := by rw [beq_eq_false_iff_ne]; omega
  have b4 : ¬ (c = i) := by omega
  have b5 : ¬ (G = i) := by omega
  have b5' : ¬ (G = i + 1) := by omega
  have b6 : (c : Int) ≤ 2000 := by omega
  have b7 : (c : Int) < (c : Int) + 1 := by omega
  have b8 : (i : Int) + 1 ≤ (c : Int) + 1 := by omega
  have hGm' : (G : Int) ≤ 9223372036854775807 := by unfold maxLen at hGm; omega
  clear hh h3 h1 h2 hg h4 O1 O2 O2d O3 h hd hsl hvd hv hdl htl hn hgl hX2 hY B1 B2 hik hGm hGge hvg
  go_enter Try.func77, Try.ntmps77
  go_wp2_with (at_builtin; refine Lib.wpList_append_run _ rfl _ _ _ _ rfl _ _ rfl rfl _ _ (hrz _) ?_)
  go_region
  go_wp2_with fail
  go_ret
  exact ⟨G, rfl, HO.out, HB.out⟩

theorem insert_any (w : World) (base : Nat) (v : Value) (i vb : Nat) (X : List Pt) (b : Pt) (h : OwnPg w base v X) (hv : OneAt w vb b) (hvg : v.ownBlock ≠ some vb) (hl : X.length ≤ 2000) (hi : i ≤ X.length) (hbase : base ≤ w.heap.size) :
    Calls Try.prog 77 #[v, .int .i64 (i : Int), .slice (some ⟨vb, 0, none⟩) 1 1] w fun e w' => ∃ v', e = .returned v' ∧ OwnPg w' base v' (X.take i ++ b :: X.drop i) ∧ Goes (ownB v) w w' (ownB v') := by
  obtain ⟨a, c, rfl, hp, hg, h1, h2⟩ := h.at_
  rcases Nat.lt_or_ge i X.length with hlt | hge
  · obtain ⟨g, c', e, _⟩ := h.some (by omega)
    injection e with e1 e2 e3
    subst e1
    have hvg' : vb ≠ g := fun e => hvg (by rw [e]; rfl)
    rcases Nat.lt_or_ge c (X.length + 1) with hc | hc
    · refine (insert_grow w base g c X.length i vb X b rfl h hv hl hlt hc hbase).mono ?_
      rintro r w' ⟨G, rfl, ho, hb⟩
      exact ⟨_, rfl, ho, hb.os, hb.tape, hb.output, hb.size, fun k hk _ => hb.block k hk, fun k hk => .inr (by have e : w.heap.size = k := Option.some.inj hk; omega)⟩
    · refine (insert_shift w base g c X.length i vb X b rfl h hv hvg' hl hlt hc).mono ?_
      rintro r w' ⟨rfl, ho, hb⟩
      refine ⟨_, rfl, ho, hb.os, hb.tape, hb.output, hb.size, fun k hk hn => hb.block k hk (fun e => hn (by rw [e]; rfl)), fun k hk => .inl ?_⟩
      have e : g = k := Option.some.inj hk
      rw [← e]; rfl
  · obtain rfl : i = X.length := by omega
    have := insert_end w base a c X.length vb X b rfl h hv hl hbase h1
    rw [List.take_length, List.drop_length]
    exact this


end TP
end Go.Proofs.Ytlefcjgemojhpab.PTree
