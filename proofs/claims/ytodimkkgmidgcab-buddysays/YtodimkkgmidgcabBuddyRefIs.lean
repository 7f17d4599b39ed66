/- Go's slices.Index and Contains at bools, and the test within quirref.BuddyFree, walked. Conditions: how many places there are. -/
import Derived.Test.YtodimkkgmidgcabBuddyHelp
namespace Go.Proofs.Ytodimkkgmidgcab.PBuddy
open Go Go.RowKit PPool
set_option maxRecDepth 100000

theorem bool_info : (Try.prog.info? 4).map (fun i => (i.zero, i.size, i.bytes)) = some (some (.bool false), 1, 1) := by kernel_rfl
theorem made_bools (n : Nat) : madeCells #[.bool false] (n * 1) = ((List.replicate n false).map Value.bool).toArray := by
  apply Array.ext'
  unfold madeCells
  rw [Array.toList_map, Array.toList_range, List.map_replicate]
  apply List.ext_getElem?
  intro j
  rw [List.getElem?_map]
  show _ = (List.replicate n (Value.bool false))[j]?
  rw [List.getElem?_replicate]
  by_cases hj : j < n
  · rw [List.getElem?_range (by omega), if_pos hj]
    simp [Nat.mod_one]
  · rw [List.getElem?_eq_none (by simp; omega), if_neg hj]
    rfl
theorem bools_made (w : World) (n : Nat) (hn : n ≤ maxLen) : OwnBools (w.alloc (.cells (madeCells #[.bool false] (n * 1)) 4)) w.heap.size (.slice (some ⟨w.heap.size, 0, none⟩) n n) (List.replicate n false) := by
  rw [made_bools]
  refine ⟨by simp, .inr ⟨w.heap.size, n, _, by simp, Nat.le_refl _, heap_alloc_new w _, by simp, hn, by simp, ?_⟩⟩
  simp
theorem run_make_bools (n : Nat) (hn : n ≤ 4096) (W : World) : (Instr.makeSlice 50 (.int .i64 (n : Int)) (.int .i64 (n : Int))).run Try.prog W = .ok (.slice (some ⟨W.heap.size, 0, none⟩) n n) (W.alloc (.cells (madeCells #[.bool false] (n * 1)) 4)) := by
  obtain ⟨i0, hi, hz0, hz1, hz2⟩ := info_parts bool_info
  have := run_make (P := Try.prog) W 50 4 i0 (.bool false) Try.underlying50 hi hz0 .i64 .i64 n n (by omega) (by omega) (by rw [hz2]; omega) (by omega)
  rw [hz1] at this
  exact this

set_option maxHeartbeats 1000000 in
theorem indexT_any (w : World) (a : Option Addr) (c n : Nat) (L : List Bool) (h : BoolsAt w a L) (hL : L.length = n) (hn : n ≤ 4096) :
    Calls Try.prog 30 #[.slice a n c, .bool true] w fun e w' => ∃ r : Int, e = .returned (.int .i64 r) ∧ decide ((0 : Int) ≤ r) = L.contains true ∧ Below w.heap.size w w' := by
  have H := hid h
  have HL := hid hL
  clear h hL
  go_enter Try.func30, Try.ntmps30
  go_wp2_with fail
  go_loopw [8] (fun i wr => ∃ k : Nat, k ≤ n ∧ i = .int .i64 (k : Int) ∧ Hid (∀ j x, j < k → L[j]? = some x → x = false) ∧ Hid (Below w.heap.size w wr)) (fun i _ => n - (intOf i).toNat)
  case atStart => exact ⟨0, Nat.zero_le _, rfl, fun j x hj => by omega, Below.refl _ _⟩
  case round =>
    obtain ⟨k, hk, rfl, hO, hb⟩ := hrel
    by_cases hlt : k < n
    · obtain ⟨x, hx⟩ : ∃ x, L[k]? = some x := ⟨_, List.getElem?_eq_getElem (by have := HL.out; omega)⟩
      obtain ⟨b, o, rfl, d1⟩ := (H.out.below hb.out) k x hx
      have k0 : (0 : Int) ≤ (k : Int) := by omega
      have k1 : (k : Int) < (n : Int) := by omega
      cases x with
      | true =>
        have HE : Hid (decide ((0 : Int) ≤ (k : Int)) = L.contains true) := by
          show _ = _
          rw [decide_eq_true k0]
          symm
          rw [List.contains_iff_mem]
          exact List.mem_of_getElem? hx
        clear hO hx
        go_wp2_with fail
        go_ret
        exact ⟨_, rfl, HE.out, hb.out⟩
      | false =>
        have NO : Hid (∀ j x, j < k + 1 → L[j]? = some x → x = false) := fun j y hj hy => by
          by_cases e : j = k
          · subst e
            rw [hx] at hy
            cases hy; rfl
          · exact hO.out j y (by omega) hy
        clear hO hx
        go_wp2_with fail
        go_roundw
        case rel => exact ⟨k + 1, by omega, by go_num, NO, hb⟩
        case measure => simp [intOf]; omega
    · obtain rfl : k = n := by omega
      have j3 : decide ((k : Int) < (k : Int)) = false := by simp
      have HE : Hid (decide ((0 : Int) ≤ -1) = L.contains true) := by
        show _ = _
        rw [decide_eq_false (by omega)]
        symm
        rw [Bool.eq_false_iff]
        intro hc
        rw [List.contains_iff_mem] at hc
        obtain ⟨j, hj⟩ := List.getElem?_of_mem hc
        have := hO.out j true (by have := (List.getElem?_eq_some_iff.1 hj).1; have := HL.out; omega) hj
        cases this
      clear hO
      go_wp2_with fail
      go_ret
      exact ⟨_, rfl, HE.out, hb.out⟩
theorem hasT_any (w : World) (a : Option Addr) (c n : Nat) (L : List Bool) (h : BoolsAt w a L) (hL : L.length = n) (hn : n ≤ 4096) :
    Calls Try.prog 25 #[.slice a n c, .bool true] w fun e w' => e = .returned (.bool (L.contains true)) ∧ Below w.heap.size w w' := by
  have HI := hid (indexT_any w a c n L h hL hn)
  clear h hL
  generalize L.contains true = Y at *
  go_enter Try.func25, Try.ntmps25
  go_wp2_with fail
  refine (HI.out).mono ?_
  rintro r w1 ⟨z, rfl, hz, hb⟩
  have B := hid hb
  have HZ := hid hz
  clear hb hz
  go_wp2_with fail
  go_ret
  exact ⟨by rw [← HZ.out]; rfl, B.out⟩

theorem is_num {p o n q m : Nat} (hp : p < q) (hq : q = 2 ^ n) (hm : m = 2 ^ o) (ho : o ≤ n) (hq3 : q ≤ 1024) : ∃ B : Nat, B = Bd.base p o ∧ IntKind.i64.wrap ((p : Int) / 2 ^ o * 2 ^ o) = (B : Int) ∧ B + m ≤ q ∧ ¬ q = B ∧ (0 : Int) ≤ (B : Int) ∧ (B : Int) ≤ (B : Int) + (m : Int) ∧ (B : Int) + (m : Int) ≤ (q : Int) ∧ IntKind.i64.wrap ((B : Int) + (m : Int)) = (B : Int) + (m : Int) ∧ ((B : Int) + (m : Int)).toNat = B + m ∧ 0 < m := by
  have h1 := Bd.base_fits (N := n) (p := p) (o := o) (by rw [← hq]; exact hp) ho
  rw [← hq, ← hm] at h1
  have h2 := Bd.pow_pos' o
  rw [← hm] at h2
  have e : (p : Int) / 2 ^ o * 2 ^ o = ((Bd.base p o : Nat) : Int) := by
    unfold Bd.base
    rw [← Bd.cast_pow, Int.natCast_mul, Int.natCast_ediv]
  refine ⟨Bd.base p o, rfl, ?_, h1, by omega, by omega, by omega, by omega, IntWalk.i64_in _ ⟨by omega, by omega⟩, by omega, h2⟩
  rw [e, IntWalk.i64_in _ ⟨by omega, by omega⟩]

set_option maxHeartbeats 2000000 in
theorem is_any (w : World) (X : List Bd.Bk) (n q p o b1 b4 gp : Nat) (hq : q = 2 ^ n) (hn : n ≤ 10) (hp : p < q) (ho : o ≤ 11) (h1 : w.cell? ⟨b1, 0, none⟩ = some (.int .i64 (n : Int))) (h4 : w.cell? ⟨b4, 0, none⟩ = some (.slice (some ⟨gp, 0, none⟩) q q))
    (hb : BoolsAt w (some ⟨gp, 0, none⟩) (Bd.pl q (Bd.tk X))) :
    Calls Try.prog 24 #[.int .i64 (p : Int), .int .i64 (o : Int), .pointer (some ⟨b1, 0, none⟩), .pointer (some ⟨b4, 0, none⟩)] w fun e w' => e = .returned (.bool (Bd.isF X n p o)) ∧ Below w.heap.size w w' := by
  by_cases hon : o ≤ n
  · obtain ⟨m, M1, m2, m3, t1, t1'⟩ := shl1 (Nat.le_trans hon hn)
    have hq3 : q ≤ 1024 := by rw [hq]; exact Bd.pow_le hn
    obtain ⟨B, hB, e1, e2, e3, e4, e5, e6, e7, e8, _⟩ := is_num (p := p) hp hq M1.out hon hq3
    have hY : Bd.isF X n p o = !((((Bd.pl q (Bd.tk X)).drop B).take m).contains true) := by
      unfold Bd.isF
      rw [decide_eq_true hon, Bool.true_and, ← hq, ← M1.out, ← hB]
    have hR := (hb.drop B).take m
    rw [Nat.zero_add] at hR
    have hRl : (((Bd.pl q (Bd.tk X)).drop B).take m).length = m := by rw [List.length_take, List.length_drop, Bd.pl_len]; omega
    have KC := hid fun W (hW : BoolsAt W (some ⟨gp, B, none⟩) (((Bd.pl q (Bd.tk X)).drop B).take m)) => hasT_any W (some ⟨gp, B, none⟩) (q - B) m _ hW hRl (by omega)
    rw [hY]
    have HR := hid hR
    generalize ((Bd.pl q (Bd.tk X)).drop B).take m = L at *
    generalize L.contains true = Z at *
    have j1 : decide ((o : Int) ≤ (n : Int)) = true := by simp; omega
    have j1' : decide (o ≤ n) = true := by simp; omega
    have o0 : (0 : Int) ≤ (o : Int) := by omega
    have ho10 : o ≤ 10 := Nat.le_trans hon hn
    have sbm : B + m - B = m := by omega
    clear hY hb hq hn hp ho m2 m3 hB e2 hon hRl hR hq3
    go_enter Try.func24, Try.ntmps24
    go_wp2_with fail
    go_region_held3 (fun W => W.cell? ⟨b1, 0, none⟩ = some (.int .i64 (n : Int)) ∧ W.cell? ⟨b4, 0, none⟩ = some (.slice (some ⟨gp, 0, none⟩) q q))
      (first | exact ⟨h1, h4⟩ | (go_split_ands; exact ⟨by assumption, by assumption⟩))
      ((go_at_call 25; refine (KC.out w.drew (HR.out.keep fun _ _ => rfl)).mono ?_; rintro r w3 ⟨rfl, hb3⟩; have B3 := hid (drew_below hb3); have x1 := keep1 B3.out h1; have x4 := keep1 B3.out h4; clear hb3))
    go_wp2_with fail
    go_ret
    exact ⟨rfl, B3.out⟩
  · have hY : Bd.isF X n p o = false := by unfold Bd.isF; rw [decide_eq_false hon, Bool.false_and]
    rw [hY]
    have j1 : decide ((o : Int) ≤ (n : Int)) = false := by simp; omega
    have j1' : decide (o ≤ n) = false := by simp; omega
    clear hY hb
    go_enter Try.func24, Try.ntmps24
    go_wp2_with fail
    go_quiet (fail)
    go_wp2_with fail
    go_ret
    exact ⟨rfl, below_drewN (Below.refl _ _) _⟩

end Go.Proofs.Ytodimkkgmidgcab.PBuddy
