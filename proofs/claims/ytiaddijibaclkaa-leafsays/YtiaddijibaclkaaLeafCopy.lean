/- leaf.firstUnused and copySlots, slices.Clone at slots, walked: the first place that is free; a row of one's own with the same slots. Conditions: how many slots there are, how long their texts are. -/
import Derived.Test.YtiaddijibaclkaaLeafRows
import Derived.Lib.SliceRun
namespace Go.Proofs.Ytiaddijibaclkaa.PLeaf
open Go Go.RowKit
set_option maxRecDepth 100000

set_option maxHeartbeats 2000000 in
theorem first_any (w : World) (a : Option Addr) (c : Nat) (X : List Lf.Sl) (h : PgAt w a X) (hn : X.length ≤ 9223372036854775807) :
    Calls Try.prog 90 #[.slice a X.length c] w fun e w' => e = .returned (.int .i64 (Lf.first X : Int)) ∧ Below w.heap.size w w' := by
  have H := hid h
  obtain ⟨Y, hY⟩ : ∃ Y, Y = Lf.first X := ⟨_, rfl⟩
  rw [← hY]
  have HY := hid hY
  clear h hY
  go_enter Try.func90, Try.ntmps90
  go_wp2_with fail
  go_loopw [7] (fun i wr => ∃ k : Nat, k ≤ X.length ∧ i = .int .i64 (k : Int) ∧ Hid (∀ j x, j < k → X[j]? = some x → x.used = true) ∧ Hid (Below w.heap.size w wr)) (fun i _ => X.length - (intOf i).toNat)
  case atStart => exact ⟨0, Nat.zero_le _, rfl, fun j x hj => by omega, Below.refl _ _⟩
  case round =>
    obtain ⟨k, hk, rfl, hO, hb⟩ := hrel
    by_cases hlt : k < X.length
    · obtain ⟨x, hx⟩ : ∃ x, X[k]? = some x := ⟨_, List.getElem?_eq_getElem hlt⟩
      obtain ⟨b, o, rfl, d1, d2⟩ := (H.out.below hb.out) k x hx
      have k0 : (0 : Int) ≤ (k : Int) := by omega
      have k1 : (k : Int) < (X.length : Int) := by omega
      have HX := hid hx
      clear hx
      obtain ⟨u, t⟩ := x
      simp only at d1 d2
      cases u with
      | true =>
        have NO : Hid (∀ j x, j < k + 1 → X[j]? = some x → x.used = true) := fun j x hj hx => by
          by_cases e : j = k
          · subst e
            rw [HX.out] at hx
            cases hx; rfl
          · exact hO.out j x (by omega) hx
        clear hO HX
        go_wp2_with fail
        go_roundw
        case rel => exact ⟨k + 1, by omega, by go_num, NO, hid (below_tr hb.out (bx _ _))⟩
        case measure => simp [intOf]; omega
      | false =>
        have HK : Hid (Y = k) := by
          show _ = _
          rw [HY.out]
          exact Lf.first_of hk hO.out (fun x hx => by rw [HX.out] at hx; cases hx; rfl)
        clear hO HX HY
        go_wp2_with fail
        go_ret
        exact ⟨by rw [HK.out]; rfl, below_tr hb.out (bx _ _)⟩
    · obtain rfl : k = X.length := by omega
      have j3 : decide ((X.length : Int) < (X.length : Int)) = false := by simp
      have HK : Hid (Y = X.length) := by
        show _ = _
        rw [HY.out]
        exact Lf.first_of hk hO.out (fun x hx => by simp at hx)
      clear hO HY
      go_wp2_with fail
      go_ret
      exact ⟨by rw [HK.out]; rfl, hb.out⟩

set_option maxHeartbeats 2000000 in
theorem pgClone_any (w : World) (a : Option Addr) (c : Nat) (X : List Lf.Sl) (h : PgAt w a X) (hn : X.length * 24 ≤ 140737488355328) :
    Calls Try.prog 60 #[.slice a X.length c] w fun e w' => ∃ v, e = .returned v ∧ OwnPg w' w.heap.size v X ∧ Below w.heap.size w w' := by
  obtain ⟨i0, hi, hz0, hz1, hz2⟩ := info_parts slot_info
  have q22 : ∀ (w : World) (a : Option Addr) (n c n' c' : Nat), (binOp .eql 71 (.slice a n c) (.slice none n' c')).run Try.prog w = .ok (.bool a.isNone) w := fun w a n c n' c' => Lib.run_eql_slice_nil w _ _ a n c n' c' Try.underlying71
  cases a with
  | none =>
    have hX : X = [] := by
      cases X with
      | nil => rfl
      | cons x X => obtain ⟨b, o, e, _⟩ := h 0 x rfl; cases e
    subst hX
    clear h hi hz0 hz1 hz2
    go_enter Try.func60, Try.ntmps60
    go_wp2_with fail
    go_ret
    exact ⟨_, rfl, OwnPg.nil _ _, Below.refl _ _⟩
  | some q =>
    have H := hid h
    clear h
    go_enter Try.func60, Try.ntmps60
    go_wp2_with (at_builtin; refine wpList_append_own _ rfl _ _ 71 rfl w.heap.size 90 i0 (.agg #[.bool false, .string ⟨#[]⟩]) 2 24 Try.underlying71 hi hz0 hz1 hz2 rfl (by decide) _ _ _ rfl (World.ownsRow_made w #[] 0 (Nat.le_refl _) (Nat.zero_le _) rfl) q X.length c (X.flatMap sc) rfl ?qc1 ?qc2 ?qc3 ?qc4 ?qc5 ?qc6 ?_)
    case qc1 => exact pg_len X
    case qc2 =>
      intro j u hj
      have hjl : j < X.length * 2 := by have := (List.getElem?_eq_some_iff.1 hj).1; rwa [pg_len] at this
      obtain ⟨x, hx⟩ : ∃ x, X[j / 2]? = some x := ⟨_, List.getElem?_eq_getElem (by omega)⟩
      obtain ⟨b, o, e, d1, d2⟩ := H.out _ _ hx
      cases e
      rw [Addr.add_mid]
      refine Lib.cell?_alloc_some _ ?_
      rcases Nat.mod_two_eq_zero_or_one j with hm | hm
      · have e1 : j = j / 2 * 2 + 0 := by omega
        have e2 := flat_at (enc := sc) (c := 2) X (fun x _ => sc_len x) (j / 2) x hx 0 (.bool x.used) rfl
        rw [← e1, hj] at e2
        rw [e2, ← d1]
        congr 2
        omega
      · have e1 : j = j / 2 * 2 + 1 := by omega
        have e2 := flat_at (enc := sc) (c := 2) X (fun x _ => sc_len x) (j / 2) x hx 1 (.string x.text) rfl
        rw [← e1, hj] at e2
        rw [e2, ← d2]
        congr 2
        omega
    case qc3 => exact pg_one X
    case qc4 => unfold maxLen; omega
    case qc5 => omega
    case qc6 => simp
    intro v' w1 hown hgrow hnil
    have HO := hid hown
    have HB : Hid (Below w.heap.size w w1) := ((Below.refl _ w).alloc (Nat.le_refl _) _).grown hgrow (by simp) (by intro k hk; simp [Value.ownBlock] at hk; omega)
    clear hown hgrow hnil
    go_wp2
    go_ret
    refine ⟨v', rfl, ?_, HB.out⟩
    have := HO.out
    simpa [OwnPg] using this

set_option maxHeartbeats 2000000 in
theorem copy_any (w : World) (a : Option Addr) (c : Nat) (X : List Lf.Sl) (h : PgAt w a X) (hn : X.length * 24 ≤ 140737488355328) (ht : Txs X) :
    Calls Try.prog 91 #[.slice a X.length c] w fun e w' => ∃ v, e = .returned v ∧ OwnPg w' w.heap.size v X ∧ (∃ g c, v = .slice (some ⟨g, 0, none⟩) X.length c) ∧ Below w.heap.size w w' := by
  obtain ⟨i0, hi, hz0, hz1, hz2⟩ := info_parts slot_info
  have hmk : ∀ W, (Instr.makeSlice 71 (.int .i64 (X.length : Int)) (.int .i64 (X.length : Int))).run Try.prog W = .ok (.slice (some ⟨W.heap.size, 0, none⟩) X.length X.length) (W.alloc (.cells (madeCells z2 (X.length * 2)) 90)) := by
    intro W
    have := run_make (P := Try.prog) W 71 90 i0 (.agg z2) Try.underlying71 hi hz0 .i64 .i64 X.length X.length (by omega) (by omega) (by rw [hz2]; omega) (by omega)
    rw [hz1] at this
    exact this
  have H := hid h
  have HT := hid ht
  have hn' : (X.length : Int) ≤ 5864062014806 := by omega
  have hnl : X.length ≤ 5864062014806 := by omega
  clear h ht hi hz0 hz1 hz2 hn
  go_enter Try.func91, Try.ntmps91
  go_wp2_with fail
  go_loopw [11] (fun i wr => ∃ k : Nat, k ≤ X.length ∧ i = .int .i64 (k : Int) ∧ Hid (OwnPg wr w.heap.size (.slice (some ⟨w.heap.size, 0, none⟩) X.length X.length) (half X k)) ∧ Hid (Below w.heap.size w wr)) (fun i _ => X.length - (intOf i).toNat)
  case atStart => exact ⟨0, Nat.zero_le _, rfl, OwnPg.made w X (by unfold maxLen; omega), bx _ _⟩
  case round =>
    obtain ⟨k, hk, rfl, hO, hb⟩ := hrel
    by_cases hlt : k < X.length
    · obtain ⟨x, hx⟩ : ∃ x, X[k]? = some x := ⟨_, List.getElem?_eq_getElem hlt⟩
      obtain ⟨b, o, rfl, d1, d2⟩ := (H.out.below hb.out) k x hx
      have k0 : (0 : Int) ≤ (k : Int) := by omega
      have k1 : (k : Int) < (X.length : Int) := by omega
      have hxt := HT.out x (List.mem_of_getElem? hx)
      have KC := hid fun W => clone_any x.text W hxt
      have NX := hid (half_set hx)
      clear hx hxt
      obtain ⟨u, t⟩ := x
      simp only at d1 d2
      have OA : Hid (OwnPg (wr.alloc (.cells #[.bool u, .string t] 90)) w.heap.size (.slice (some ⟨w.heap.size, 0, none⟩) X.length X.length) (half X k)) := hO.out.keepAlloc _
      go_wp2_with fail
      have OF := hid fun W (hW : OwnPg W w.heap.size (.slice (some ⟨w.heap.size, 0, none⟩) X.length X.length) (half X k)) => hW.spot (half_at hlt)
      have hgb : w.heap.size ≠ wr.heap.size := by have := hO.out.ge; omega
      go_region_held3 (fun W => W.cell? ⟨wr.heap.size, 0, none⟩ = some (.bool u) ∧ W.cell? ⟨wr.heap.size, 1, none⟩ = some (.string t))
        (first | exact new2 _ _ _ _ | exact spot_set hgb (by assumption) (by assumption) | (go_split_ands; exact ⟨by assumption, by assumption⟩))
        ((go_at_call 61; refine (KC.out _).mono ?_; rintro r w3 ⟨rfl, hb3⟩; obtain ⟨m0, m1⟩ := box2 (drew_below hb3); have M2 := hid (OA.out.below (drew_below hb3)); obtain ⟨m3, m4, m5, m6⟩ := OF.out _ M2.out; have B3 := hid hb3; clear hb3))
      have R1 := M2.out.put k (by rw [half_len hk]; exact hlt) u t
      rw [NX.out] at R1
      have HR1 := hid R1
      clear R1 NX M2 OF OA hO m0 m1 m3 m4 m5 m6
      go_wp2_with fail
      go_roundw
      case rel => exact ⟨k + 1, by omega, by go_num, HR1, hid (Below.two (below_tr hb.out (below_tr (bx _ _) (drew_below B3.out))) (Nat.le_refl _) _ _ _ _)⟩
      case measure => simp [intOf]; omega
    · obtain rfl : k = X.length := by omega
      have j3 : decide ((X.length : Int) < (X.length : Int)) = false := by simp
      have HO : Hid (OwnPg wr w.heap.size (.slice (some ⟨w.heap.size, 0, none⟩) X.length X.length) X) := by have := hO.out; rwa [half_all] at this
      clear hO
      go_wp2_with fail
      go_ret
      exact ⟨_, rfl, HO.out, ⟨_, _, rfl⟩, hb.out⟩

end Go.Proofs.Ytiaddijibaclkaa.PLeaf
