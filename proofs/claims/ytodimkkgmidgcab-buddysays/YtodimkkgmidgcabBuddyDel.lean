/- Go's slices.Clone and Delete at blocks, walked: each answers what the plain lists say, in a row of one's own; no other block turns. Conditions: how many blocks there are. -/
import Derived.Test.YtodimkkgmidgcabBuddyLib
import Derived.Deep.RegionLaw
namespace Go.Proofs.Ytodimkkgmidgcab.PBuddy
open Go Go.RowKit PPool
set_option maxRecDepth 100000

set_option maxHeartbeats 1000000 in
theorem clone_any (w : World) (a : Option Addr) (c : Nat) (X : List Bd.Bk) (h : PgAt w a X) (hn : X.length * 16 ≤ 140737488355328) :
    Calls Try.prog 16 #[.slice a X.length c] w fun e w' => ∃ v, e = .returned v ∧ OwnPg w' w.heap.size v X ∧ Below w.heap.size w w' := by
  obtain ⟨i0, hi, hz0, hz1, hz2⟩ := info_parts block_info
  have q22 : ∀ (w : World) (a : Option Addr) (n c n' c' : Nat), (binOp .eql 22 (.slice a n c) (.slice none n' c')).run Try.prog w = .ok (.bool a.isNone) w := fun w a n c n' c' => Lib.run_eql_slice_nil w _ _ a n c n' c' Try.underlying22
  cases a with
  | none =>
    have hX : X = [] := by
      cases X with
      | nil => rfl
      | cons x X => obtain ⟨b, o, e, _⟩ := h 0 x rfl; cases e
    subst hX
    clear h hi hz0 hz1 hz2
    go_enter Try.func16, Try.ntmps16
    go_wp2_with fail
    go_ret
    exact ⟨_, rfl, OwnPg.nil _ _, Below.refl _ _⟩
  | some q =>
    have H := hid h
    clear h
    go_enter Try.func16, Try.ntmps16
    go_wp2_with (at_builtin; refine wpList_append_own _ rfl _ _ 22 rfl w.heap.size 37 i0 (.agg #[.int .i64 0, .int .i64 0]) 2 16 Try.underlying22 hi hz0 hz1 hz2 rfl (by decide) _ _ _ rfl (World.ownsRow_made w #[] 0 (Nat.le_refl _) (Nat.zero_le _) rfl) q X.length c (X.flatMap sc) rfl ?qc1 ?qc2 ?qc3 ?qc4 ?qc5 ?qc6 ?_)
    case qc1 => exact pg_len X
    case qc2 =>
      intro j u hj
      have hX : 0 < X.length := by have := (List.getElem?_eq_some_iff.1 hj).1; rw [pg_len] at this; omega
      obtain ⟨x, hx⟩ : ∃ x, X[0]? = some x := ⟨_, List.getElem?_eq_getElem hX⟩
      obtain ⟨b, o, e, _⟩ := H.out _ _ hx
      cases e
      exact ((H.out.below (bx w _)).flat) j u hj
    case qc3 => exact pg_one X
    case qc4 => unfold maxLen; omega
    case qc5 => omega
    case qc6 => simp
    intro v' w1 hown hgrow hnil
    have HO := hid hown
    have HB : Hid (Below w.heap.size w w1) := ((Below.refl _ w).alloc (Nat.le_refl _) _).grown hgrow (by simp) (by intro k hk; simp [Value.ownBlock] at hk; omega)
    clear hown hgrow hnil
    go_wp2
    go_ret
    refine ⟨v', rfl, ?_, HB.out⟩
    have := HO.out
    simpa [OwnPg] using this

theorem goes_lay {w w1 : World} {g : Nat} (h : Goes (fun b => b = g) w w1 (fun b => b = g)) (k : Nat) (cs : List Value) : Goes (fun b => b = g) w (w1.setCells g k cs) (fun b => b = g) := goes_set (own := fun b => b = g) h (.inl rfl) k cs
theorem own_front {w : World} {base g c m : Nat} {X : List Bd.Bk} (h : OwnPg w base (.slice (some ⟨g, 0, none⟩) X.length c) X) (k : Nat) (hk : k ≤ X.length) (hm : m = k) : OwnPg w base (.slice (some ⟨g, 0, none⟩) m c) (X.take k) := by
  subst hm
  obtain ⟨cur, hh, h3, _, h1, h2, hg, h4⟩ := own_block h
  refine ⟨by rw [pg_len], .inr ⟨g, c, cur, by rw [List.length_take, Nat.min_eq_left hk], hg, hh, by rw [List.length_take]; omega, h2, h3, ?_⟩⟩
  rw [pg_take, ← h4, List.take_take, List.length_take]
  congr 1
  omega

/-- The zeros behind what is left. -/
theorem run_clear_pg {w : World} {base g n c : Nat} {X : List Bd.Bk} (h : OwnPg w base (.slice (some ⟨g, 0, none⟩) n c) X) (ty : TypeId) (k cc : Nat) (hk : k + 1 ≤ c) :
    (Builtin.clear_ #[22] ty #[.slice (some ⟨g, k * 2, none⟩) 1 cc]).run Try.prog w = .ok (.tuple #[]) (w.setCells g (k * 2) ([Bd.zero'].flatMap sc)) := by
  obtain ⟨cur, hh, h3, rfl, h1, h2, hg, h4⟩ := own_block h
  have hz : (Builtin.zeroCells (Value.agg #[.int .i64 0, .int .i64 0]).cells 1).toList = [Bd.zero'].flatMap sc := by rw [zero_cells]; rfl
  have hv := Try.zeroValue37
  have hst := run_storeCells_cells (P := Try.prog) g (k * 2) ([Bd.zero'].flatMap sc) 0 w (fun j hj => by rw [pg_len] at hj; simp at hj; rw [cell_of_row w g _ cur _ _ hh]; simp; omega) (fun j _ => by simp [World.frozen?, hh]) (pg_one _)
  simp only [Nat.add_zero] at hst
  generalize [Bd.zero'].flatMap sc = Z at *
  simp [Builtin.clear_, run_underlying Try.underlying22, hv, hz, hst]

theorem del_row {X : List Bd.Bk} {k m : Nat} (hm : X.length = m + 1) (hk : k ≤ m) : (X.take k ++ X.drop (k + 1) ++ X.drop (k + (X.drop (k + 1)).length)).take m = X.eraseIdx k := by
  rw [← List.eraseIdx_eq_take_drop_succ, List.take_left']
  rw [List.length_eraseIdx_of_lt (by omega)]
  omega

set_option maxHeartbeats 1000000 in
theorem delete_any (w : World) (base g c k m : Nat) (X : List Bd.Bk) (hm : X.length = m + 1) (h : OwnPg w base (.slice (some ⟨g, 0, none⟩) (m + 1) c) X) (hk : k ≤ m) (hl : m ≤ 2000) :
    Calls Try.prog 22 #[.slice (some ⟨g, 0, none⟩) (m + 1) c, .int .i64 (k : Int), .int .i64 ((k : Int) + 1)] w fun e w' => e = .returned (.slice (some ⟨g, 0, none⟩) m c) ∧ OwnPg w' base (.slice (some ⟨g, 0, none⟩) m c) (X.eraseIdx k) ∧ Goes (fun b => b = g) w w' (fun b => b = g) := by
  have h : OwnPg w.drew base (.slice (some ⟨g, 0, none⟩) (m + 1) c) X := h.keep fun _ _ => rfl
  obtain ⟨cur, hh, h3, hx4, h1, h2, hg, h4⟩ := own_block h
  clear hx4
  obtain ⟨i0, hi, hz0, hz1, hz2⟩ := info_parts block_info
  have u := Try.underlying22
  have z := Try.sizeOf37
  have hcm : (c : Int) ≤ 9223372036854775807 := by unfold maxLen at h2; omega
  have hmc : (m : Int) + 1 ≤ (c : Int) := by omega
  have hdl : (X.drop (k + 1)).length = m - k := by rw [List.length_drop]; omega
  -- what is behind
  obtain ⟨A, hA, hsrc⟩ : ∃ A : Addr, (if c = k + 1 then some (⟨g, 0, none⟩ : Addr) else some ⟨g, (k + 1) * 2, none⟩) = some A ∧ (∀ j u, ((X.drop (k + 1)).flatMap sc)[j]? = some u → w.drew.cell? (A.add j) = some u) := by
    by_cases hc : c = k + 1
    · refine ⟨⟨g, 0, none⟩, by rw [if_pos hc], fun j u hj => ?_⟩
      rw [List.drop_of_length_le (by omega)] at hj
      simp at hj
    · refine ⟨⟨g, (k + 1) * 2, none⟩, by rw [if_neg hc], fun j u hj => ?_⟩
      have := ((own_pg h).drop (k + 1)).flat j u hj
      rw [Nat.zero_add] at this
      exact this
  have hv1 : ∀ W : World, (Instr.slice 22 (.slice (some ⟨g, 0, none⟩) (m + 1) c) none (some (.int .i64 (k : Int))) none).run Try.prog W = .ok (.slice (some ⟨g, 0, none⟩) k c) W := fun W => by
    have k0 : (k : Int) ≤ (c : Int) := by omega
    go_simp
  have hv2 : ∀ W : World, (Instr.slice 22 (.slice (some ⟨g, 0, none⟩) (m + 1) c) (some (.int .i64 ((k : Int) + 1))) none none).run Try.prog W = .ok (.slice (some A) (m - k) (c - (k + 1))) W := fun W => by
    have := slice_from W g (m + 1) c (k + 1) (by omega)
    rw [hA, show m + 1 - (k + 1) = m - k by omega, show ((k + 1 : Nat) : Int) = (k : Int) + 1 by omega] at this
    exact this
  have s1 : Hid (((X.drop (k + 1)).flatMap sc).length = (m - k) * 2) := by show _ = _; rw [pg_len, hdl]
  have s2 : Hid (∀ u ∈ (X.drop (k + 1)).flatMap sc, u.oneCell' = true) := pg_one _
  have s3 : Hid (∀ j, j < ((X.drop (k + 1)).flatMap sc).length → (w.drew.cell? ⟨g, 0 + k * 2 + j, none⟩).isSome = true ∧ w.drew.frozen? ⟨g, 0 + k * 2 + j, none⟩ = false) := fun j hj => by
    rw [pg_len, hdl] at hj
    exact ⟨by rw [cell_of_row w.drew g _ cur _ _ hh]; simp; omega, by simp [World.frozen?, hh]⟩
  have HS := hid hsrc
  have O1 := own_lay h k (X.drop (k + 1)) (by omega) (by rw [hdl]; omega)
  have e1 : (X.take k ++ X.drop (k + 1) ++ X.drop (k + (X.drop (k + 1)).length)).length = m + 1 := by simp; omega
  have e2 := del_row hm hk
  have G1 : Goes (fun b => b = g) w (w.drew.setCells g (k * 2) ((X.drop (k + 1)).flatMap sc)) (fun b => b = g) := goes_lay (Goes.refl _ w).drew _ _
  generalize X.take k ++ X.drop (k + 1) ++ X.drop (k + (X.drop (k + 1)).length) = Y at *
  generalize (X.drop (k + 1)).flatMap sc = cs at *
  obtain ⟨w1, hw1⟩ : ∃ w1, w1 = w.drew.setCells g (0 + k * 2) cs := ⟨_, rfl⟩
  have hw2 : w.drew.setCells g (k * 2) cs = w1 := by rw [hw1, Nat.zero_add]
  rw [hw2] at O1 G1
  have HW := hid hw1
  clear hw1 hw2
  have hcl := fun ty => run_clear_pg O1 ty m (c - m) (by omega)
  have O2 := own_lay O1 m [Bd.zero'] (by omega) (by simp; omega)
  have HO : Hid (OwnPg (w1.setCells g (m * 2) ([Bd.zero'].flatMap sc)) base (.slice (some ⟨g, 0, none⟩) m c) (X.eraseIdx k)) := by
    have e3 : (Y.take m ++ [Bd.zero'] ++ Y.drop (m + [Bd.zero'].length)).take m = Y.take m := by
      rw [List.append_assoc, List.take_append_of_le_length (by rw [List.length_take]; omega), List.take_take, Nat.min_self]
    have := own_front O2 m (by simp; omega) rfl
    rw [e3, e2] at this
    exact this
  have HG := hid (goes_lay G1 (m * 2) ([Bd.zero'].flatMap sc))
  generalize [Bd.zero'].flatMap sc = zs at *
  have b1 : (0 : Int) ≤ (k : Int) := by omega
  have b2 : (k : Int) ≤ (m : Int) := by omega
  have b3 : ((k : Int) == (k : Int) + 1) = false := by rw [beq_eq_false_iff_ne]; omega
  have b4 : ¬ (c = m) := by omega
  have b5 : (m : Int) ≤ 2000 := by omega
  have hkm : k + (m - k) = m := by omega
  clear hh h3 h1 h2 hg h4 hz0 hz2 hsrc hA O1 O2 G1 h e1 e2 hdl hm
  go_enter Try.func22, Try.ntmps22
  go_wp2_with fail
  go_region_law (refine step_append_room rfl (.tmp 22) (.tmp 25) 22 rfl 37 i0 2 Try.underlying22 hi hz1 g 0 k c (by simp [Act.eval, Act.put]) A (m - k) (c - (k + 1)) cs (by simp [Act.eval, Act.put]) s1.out HS.out s2.out (by omega) s3.out ?_; rw [← HW.out, hkm])
  go_wp2_with fail
  go_ret
  exact ⟨rfl, HO.out, HG.out⟩

end Go.Proofs.Ytodimkkgmidgcab.PBuddy
