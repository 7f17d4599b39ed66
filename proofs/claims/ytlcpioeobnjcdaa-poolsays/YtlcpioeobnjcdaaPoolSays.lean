/- quirlaw.PoolSays, walked: true whatever is handed in. Conditions: the refs are numbers that an int holds; their slice has no less capacity than length. -/
import Derived.Test.YtlcpioeobnjcdaaPoolAns
import Derived.Test.YtlcpioeobnjcdaaPoolEq
import Derived.Test.YtlcpioeobnjcdaaPoolRef
import Derived.Test.YtlcpioeobnjcdaaPoolRefClk
namespace Go.Proofs.Ytlcpioeobnjcdaa.PPool
open Go Go.RowKit Go.Maps
set_option maxRecDepth 100000

/-- What the reference answers is what the calls answer. -/
theorem ref_out {j : Nat} (hj : j < 3) {size : Int} {refs : List Int} (h : chk size refs.length = 0) : Pl.go id (refS (j : Int) size.toNat) [] refs = outOf size refs j := by
  obtain ⟨h1, _⟩ := chk_zero h
  match j, hj with
  | 0, _ =>
    show Pl.go id (refS 0 size.toNat) [] refs = out Pl.fifoR () size refs
    rw [ref_fifo h1, out_eq _ _ h, (Pl.fifo_run h1 refs).1, (Pl.fifo_run h1 refs).2]
  | 1, _ =>
    show Pl.go id (refS 1 size.toNat) [] refs = out Pl.lruR () size refs
    rw [ref_lru h1, out_eq _ _ h, (Pl.lru_run h1 refs).1, (Pl.lru_run h1 refs).2]
  | 2, _ =>
    show Pl.go id (refS 2 size.toNat) [] refs = out Pl.bestR () size refs
    rw [ref_best h1, out_eq _ _ h, (Pl.best_run h1 refs).1, (Pl.best_run h1 refs).2]
theorem clk_out {size : Int} {refs : List Int} (h : chk size refs.length = 0) : ((Pl.clockR.run size.toNat ((List.replicate 50 false, 0), []) refs).1, (Pl.clockR.run size.toNat ((List.replicate 50 false, 0), []) refs).2.2) = outOf size refs 3 := (out_eq _ _ h).symm

theorem of_len (j : Nat) {size : Int} {refs : List Int} : (outOf size refs j).1.length ≤ 2000 ∧ (outOf size refs j).2.length ≤ 50 := by
  by_cases h : chk size refs.length = 0
  · obtain ⟨h1, h2, h3, h4⟩ := chk_zero h
    match j with
    | 0 => exact ⟨out_len _ _ _ _, by show (out Pl.fifoR () size refs).2.length ≤ 50; rw [out_eq _ _ h]; simp only; rw [(Pl.fifo_run h1 refs).2]; exact Nat.le_trans ((Pl.fifo_keeps h1).inv refs [] (Pl.Ok.nil _)).room h2⟩
    | 1 => exact ⟨out_len _ _ _ _, by show (out Pl.lruR () size refs).2.length ≤ 50; rw [out_eq _ _ h]; simp only; rw [(Pl.lru_run h1 refs).2]; exact Nat.le_trans ((Pl.lru_keeps h1).inv refs [] (Pl.Ok.nil _)).room h2⟩
    | 2 => exact ⟨out_len _ _ _ _, by show (out Pl.bestR () size refs).2.length ≤ 50; rw [out_eq _ _ h]; simp only; rw [(Pl.best_run h1 refs).2]; exact Nat.le_trans ((Pl.best_keeps h1).inv refs [] (Pl.Ok.nil _)).room h2⟩
    | _ + 3 => exact ⟨out_len _ _ _ _, by show (out Pl.clockR (List.replicate 50 false, 0) size refs).2.length ≤ 50; rw [out_eq _ _ h]; exact Nat.le_trans ((Pl.clock_keeps h1).inv refs ((List.replicate 50 false, 0), []) ⟨Pl.Ok.nil _, h1⟩).ok.room h2⟩
  · rw [of_bad j h]
    exact ⟨Nat.zero_le _, Nat.zero_le _⟩

/-- How a function in a map reads: by its number. -/
def fnElem (v : Value) : Option (DataW Unit × List MemPlace) :=
  match v with
  | .func (.func n) a c => if a.size = 0 ∧ c.size = 0 then some (.lit (.int .i64 ((n : Nat) : Int)), []) else none
  | _ => none
def fnV (n : Nat) : Value := .func (.func n) #[] #[]
theorem fnElem_mk (n : Nat) : fnElem (fnV n) = some (.lit (.int .i64 ((n : Nat) : Int)), []) := rfl
theorem fnElem_inv {v : Value} {y : DataW Unit × List MemPlace} (h : fnElem v = some y) : ∃ n, v = fnV n ∧ y = (.lit (.int .i64 ((n : Nat) : Int)), []) := by
  unfold fnElem at h
  split at h
  · rename_i n a c
    split at h
    · rename_i hs
      cases h
      have e1 : a = #[] := Array.eq_empty_of_size_eq_zero hs.1
      have e2 : c = #[] := Array.eq_empty_of_size_eq_zero hs.2
      subst e1; subst e2
      exact ⟨n, rfl, rfl⟩
    · cases h
  · cases h
/-- The map of the four. -/
def fnD : Nat → DataW Unit
  | 0 => .map []
  | j + 1 => (fnD j).put (.int .i64 (j : Int)) (.lit (.int .i64 ((fnOf j : Nat) : Int)))
theorem fn_tidy : ∀ j, Tidy (fnD j)
  | 0 => tidy_empty
  | j + 1 => (fn_tidy j).put (key_lit _) _
theorem fn_at : ∀ (n : Nat) {x : Int} {f : Nat}, (∀ z, (fnD n).atKey (.int .i64 x) z = .lit (.int .i64 ((f : Nat) : Int))) → ∃ j, j < n ∧ x = (j : Int) ∧ f = fnOf j
  | 0, x, f, h => by
    have h1 : (DataW.lit (.bool true) : DataW Unit) = .lit (.int .i64 ((f : Nat) : Int)) := h _
    cases h1
  | n + 1, x, f, h => by
    by_cases e : x = (n : Int)
    · subst e
      refine ⟨n, Nat.lt_succ_self _, rfl, ?_⟩
      have := h (.lit (.bool true))
      rw [fnD, atKey_put_same (fn_tidy n).isMap (key_lit _)] at this
      injection this with this
      injection this with _ this
      omega
    · obtain ⟨j, h1, h2, h3⟩ := fn_at n (x := x) (f := f) (fun z => by have := h z; rwa [fnD, atKey_put_other (lit_ne e)] at this)
      exact ⟨j, by omega, h2, h3⟩
/-- The map is laid. -/
theorem fn_laid (W : World) (B n : Nat) (j : Nat) (h : W.ownsMap Try.prog 3 fnElem B n (fnD j)) (hj : j < 4) (hn : n < 4) :
    ∃ W', (Instr.mapUpdate 96 (.map (some B)) (.int .i64 (j : Int)) (fnV (fnOf j))).run Try.prog W = .ok () W' ∧ W'.ownsMap Try.prog 3 fnElem B (n + 1) (fnD (j + 1)) ∧ W.grownBy W' (some B) :=
  h.update law3 Try.underlying96 (by unfold maxLen; omega) (keyOf_int_mk Try.underlying3 (WalkArith.wf_i64 (by omega))) (fnElem_mk _)

set_option maxHeartbeats 2000000 in
theorem says_walk (w : World) (size : Int) (sa : Option Addr) (c : Nat) (refs : List Int) (h : IntsAt w sa refs) (hcap : refs.length ≤ c) (hwf : ∀ x ∈ refs, (Lit.int .i64 x).wf = true) :
    Calls Try.prog 8 #[.int .i64 size, .slice sa refs.length c] w fun e w' => e = .returned (.bool true) ∧ Below w.heap.size w w' := by
  obtain ⟨y, hy⟩ : ∃ y, y = chk size refs.length := ⟨_, rfl⟩
  have KF : Hid (∀ k W, Below w.heap.size w W → ∃ f O, (fnV (fnOf k) = Value.func (.func f) #[] #[]) ∧ (∀ (args : Array Value) (W : World), (callFunc f args).run Try.prog W = .ok (.enter f args) W) ∧ (Hid (Calls Try.prog f #[.int .i64 size, .slice sa refs.length c] W fun e w' => Ans W w' e y O)) ∧ Hid (y ≠ 0 → O = ([], [])) ∧ Hid (O = outOf size refs k)) :=
    fun k W hW => ⟨fnOf k, outOf size refs k, rfl, of_ent k, by rw [hy]; exact of_any k W size sa c refs (h.below hW) hcap, fun e => of_bad k (by rw [← hy]; exact e), rfl⟩
  have KC : Hid (y = 0 → ∀ W, Below w.heap.size w W → Calls Try.prog 67 #[.int .i64 size, .slice sa refs.length c] W fun e w' => ∃ a1 c1 a2 c2, e = .returned (.tuple #[.slice a1 (outOf size refs 3).1.length c1, .slice a2 (outOf size refs 3).2.length c2]) ∧ BoolsAt w' a1 (outOf size refs 3).1 ∧ IntsAt w' a2 (outOf size refs 3).2 ∧ Below W.heap.size W w') := fun e W hW => by
    rw [hy] at e
    obtain ⟨h1, h2, h3, h4⟩ := chk_zero e
    have := clock_ref W size.toNat sa c refs (h.below hW) h1 h2 h4
    rw [h3] at this
    rw [← clk_out e]
    exact this
  have KP : Hid (y = 0 → ∀ j : Nat, j < 3 → ∀ W, Below w.heap.size w W → Calls Try.prog 68 #[.int .i64 (j : Int), .int .i64 size, .slice sa refs.length c] W fun e w' => ∃ a1 c1 a2 c2, e = .returned (.tuple #[.slice a1 (outOf size refs j).1.length c1, .slice a2 (outOf size refs j).2.length c2]) ∧ BoolsAt w' a1 (outOf size refs j).1 ∧ IntsAt w' a2 (outOf size refs j).2 ∧ Below W.heap.size W w') := fun e j hj W hW => by
    rw [hy] at e
    obtain ⟨h1, h2, h3, h4⟩ := chk_zero e
    have := pool_ref W (j : Int) size.toNat sa c refs (h.below hW) hcap hwf h1 h2 h4
    rw [h3, ref_out hj e] at this
    exact this
  have HL : Hid (∀ j, (outOf size refs j).1.length ≤ 2000 ∧ (outOf size refs j).2.length ≤ 50) := fun j => of_len j
  have HC := hid (check_any w size sa refs.length c)
  rw [← hy] at HC
  have hyv : Hid ((size < 1 → y = 1) ∧ (50 < size → y = 1) ∧ (1 ≤ size → size ≤ 50 → 2000 < refs.length → y = 2) ∧ (1 ≤ size → size ≤ 50 → ¬ 2000 < refs.length → y = 0)) := by
    rw [hy]
    unfold chk
    refine ⟨fun e => if_pos (.inl e), fun e => if_pos (.inr e), fun e1 e2 e3 => ?_, fun e1 e2 e3 => ?_⟩
    · rw [if_neg (by omega), if_pos e3]
    · rw [if_neg (by omega), if_neg e3]
  have hmm := @run_makeMap Try.prog
  have L0 := World.ownsMap_made w Try.prog 3 fnElem
  obtain ⟨w1, r1, o1, g1⟩ := fn_laid _ _ 0 0 L0 (by decide) (by decide)
  obtain ⟨w2, r2, o2, g2⟩ := fn_laid _ _ 1 1 o1 (by decide) (by decide)
  obtain ⟨w3, r3, o3, g3⟩ := fn_laid _ _ 2 2 o2 (by decide) (by decide)
  obtain ⟨w4, r4, o4, g4⟩ := fn_laid _ _ 3 3 o3 (by decide) (by decide)
  have hB : ∀ {a b : World}, Below w.heap.size w a → a.grownBy b (some w.heap.size) → Below w.heap.size w b := fun ha hg => ha.grown hg ha.size (fun k hk => by cases hk; exact Nat.le_refl _)
  have B4 := hid (hB (hB (hB (hB (bx w _) g1) g2) g3) g4)
  have r1 : (Instr.mapUpdate 96 (.map (some w.heap.size)) (.int .i64 0) (.func (.func 63) #[] #[])).run Try.prog (w.alloc (.map #[] 0)) = .ok () w1 := r1
  have r2 : (Instr.mapUpdate 96 (.map (some w.heap.size)) (.int .i64 1) (.func (.func 64) #[] #[])).run Try.prog w1 = .ok () w2 := r2
  have r3 : (Instr.mapUpdate 96 (.map (some w.heap.size)) (.int .i64 2) (.func (.func 65) #[] #[])).run Try.prog w2 = .ok () w3 := r3
  have r4 : (Instr.mapUpdate 96 (.map (some w.heap.size)) (.int .i64 3) (.func (.func 66) #[] #[])).run Try.prog w3 = .ok () w4 := r4
  have o4 : w4.ownsMap Try.prog 3 fnElem w.heap.size 4 (fnD 4) := o4
  clear hy L0 g1 g2 g3 g4 hB o1 o2 o3 h hwf
  by_cases c1 : size < 1
  · obtain rfl : y = 1 := hyv.out.1 c1
    have t1 : decide (size < 1) = true := by simpa using c1
    clear hyv KC KP HL
    go_enter Try.func8, Try.ntmps8
    go_wp2_with fail
    refine (HC.out).mono ?_
    rintro rr wx ⟨rfl, rfl⟩
    go_wp2_with (at_range; refine wpList_range_own _ rfl _ 96 rfl 3 95 law3 Try.underlying96 fnElem wx.heap.size 4 (fnD 4) rfl o4 ?_; intro w0 hrg0 hg0 hs0)
    have R0 := hid hrg0
    have B0 : Hid (Below wx.heap.size wx w0) := B4.out.grown hg0 B4.out.size (fun k hk => by cases hk)
    clear hrg0 hg0 hs0 o4 HC
    go_frame
    go_loopw [6] (fun _ wr => ∃ (left : Lit → Bool) (cnt : Nat), Hid (wr.ranges Try.prog 3 fnElem wx.heap.size w4.heap.size 4 (fnD 4) left cnt) ∧ Hid (Below wx.heap.size wx wr)) (fun _ wr => wr.rangeLeft wx.heap.size w4.heap.size)
    case atStart => exact ⟨_, _, R0.out, B0.out⟩
    case round =>
      obtain ⟨left, cnt, hrg, hB⟩ := hrel
      go_wp2_with (at_next; refine wpList_next_ranges _ rfl _ rfl 3 law3 fnElem (Value.int .i64) fnV (fun key kl hk => by obtain ⟨x, rfl, _⟩ := keyOf_int_inv Try.underlying3 hk; exact ⟨x, rfl⟩) (fun v y hv => by obtain ⟨n, rfl, _⟩ := fnElem_inv hv; exact ⟨n, rfl⟩) wx.heap.size w4.heap.size 4 _ _ _ rfl hrg.out ?_ ?_)
      · intro _ hl0
        clear hl0
        go_wp2_with fail
        go_ret
        exact ⟨rfl, hB.out⟩
      · intro x f kl yd yp w5 cnt5 hkey hlk hR hat hrg5 hlt5 hg5 hs5 hen
        obtain ⟨x', ex, rfl, _⟩ := keyOf_int_inv Try.underlying3 hkey
        cases ex
        rw [fnElem_mk] at hR
        cases hR
        obtain ⟨j, hj4, rfl, rfl⟩ := fn_at 4 hat
        have hrl := ranges_lt hrg.out
        have B5 : Hid (Below wx.heap.size wx w5) := hB.out.grown hg5 hB.out.size (fun k hk => by cases hk; exact B4.out.size)
        have R5 := hid hrg5
        have C5 : Hid (cnt5 < cnt) := hlt5
        have fin : Hid (∀ w9, Below w5.heap.size w5 w9 → w9.ranges Try.prog 3 fnElem wx.heap.size w4.heap.size 4 (fnD 4) (fun z => left z && !z.sameKey (.int .i64 (j : Int))) cnt5) := fun w9 hb9 => ranges_of hrg5 (hb9.block _ (ranges_lt hrg5).1) (hb9.block _ (ranges_lt hrg5).2)
        obtain ⟨f, O, ef, en, KA, hbad, hO⟩ := KF.out j w5 B5.out
        rw [ef] at hen ⊢
        clear hkey hlk hat hrg5 hlt5 hg5 hs5 ef hrl R5
        go_wp2_with fail
        refine (KA.out).mono ?_
        rintro rr w6 hA
        obtain ⟨p1, q1, p2, q2, rfl, i6, j6, s6, b6⟩ := hA.take
        have B6 := below_to B5.out b6.out
        have F6 := hid (fin.out w6 b6.out)
        clear hA KA en hen
        have hOe := hbad.out (by decide)
        have z1 : O.1.length = 0 := by rw [hOe]; rfl
        have z2 : O.2.length = 0 := by rw [hOe]; rfl
        clear hbad hO hOe i6 j6 s6 fin
        go_wp2_with fail
        go_roundw
        case rel => exact ⟨_, cnt5, F6, B6⟩
        case measure => rw [F6.out.left_eq, hrg.out.left_eq]; exact C5.out
  · have t1 : decide (size < 1) = false := by simpa using c1
    by_cases c2 : 50 < size
    · obtain rfl : y = 1 := hyv.out.2.1 c2
      have t2 : decide (50 < size) = true := by simpa using c2
      clear hyv KC KP HL
      go_enter Try.func8, Try.ntmps8
      go_wp2_with fail
      refine (HC.out).mono ?_
      rintro rr wx ⟨rfl, rfl⟩
      go_wp2_with (at_range; refine wpList_range_own _ rfl _ 96 rfl 3 95 law3 Try.underlying96 fnElem wx.heap.size 4 (fnD 4) rfl o4 ?_; intro w0 hrg0 hg0 hs0)
      have R0 := hid hrg0
      have B0 : Hid (Below wx.heap.size wx w0) := B4.out.grown hg0 B4.out.size (fun k hk => by cases hk)
      clear hrg0 hg0 hs0 o4 HC
      go_frame
      go_loopw [6] (fun _ wr => ∃ (left : Lit → Bool) (cnt : Nat), Hid (wr.ranges Try.prog 3 fnElem wx.heap.size w4.heap.size 4 (fnD 4) left cnt) ∧ Hid (Below wx.heap.size wx wr)) (fun _ wr => wr.rangeLeft wx.heap.size w4.heap.size)
      case atStart => exact ⟨_, _, R0.out, B0.out⟩
      case round =>
        obtain ⟨left, cnt, hrg, hB⟩ := hrel
        go_wp2_with (at_next; refine wpList_next_ranges _ rfl _ rfl 3 law3 fnElem (Value.int .i64) fnV (fun key kl hk => by obtain ⟨x, rfl, _⟩ := keyOf_int_inv Try.underlying3 hk; exact ⟨x, rfl⟩) (fun v y hv => by obtain ⟨n, rfl, _⟩ := fnElem_inv hv; exact ⟨n, rfl⟩) wx.heap.size w4.heap.size 4 _ _ _ rfl hrg.out ?_ ?_)
        · intro _ hl0
          clear hl0
          go_wp2_with fail
          go_ret
          exact ⟨rfl, hB.out⟩
        · intro x f kl yd yp w5 cnt5 hkey hlk hR hat hrg5 hlt5 hg5 hs5 hen
          obtain ⟨x', ex, rfl, _⟩ := keyOf_int_inv Try.underlying3 hkey
          cases ex
          rw [fnElem_mk] at hR
          cases hR
          obtain ⟨j, hj4, rfl, rfl⟩ := fn_at 4 hat
          have hrl := ranges_lt hrg.out
          have B5 : Hid (Below wx.heap.size wx w5) := hB.out.grown hg5 hB.out.size (fun k hk => by cases hk; exact B4.out.size)
          have R5 := hid hrg5
          have C5 : Hid (cnt5 < cnt) := hlt5
          have fin : Hid (∀ w9, Below w5.heap.size w5 w9 → w9.ranges Try.prog 3 fnElem wx.heap.size w4.heap.size 4 (fnD 4) (fun z => left z && !z.sameKey (.int .i64 (j : Int))) cnt5) := fun w9 hb9 => ranges_of hrg5 (hb9.block _ (ranges_lt hrg5).1) (hb9.block _ (ranges_lt hrg5).2)
          obtain ⟨f, O, ef, en, KA, hbad, hO⟩ := KF.out j w5 B5.out
          rw [ef] at hen ⊢
          clear hkey hlk hat hrg5 hlt5 hg5 hs5 ef hrl R5
          go_wp2_with fail
          refine (KA.out).mono ?_
          rintro rr w6 hA
          obtain ⟨p1, q1, p2, q2, rfl, i6, j6, s6, b6⟩ := hA.take
          have B6 := below_to B5.out b6.out
          have F6 := hid (fin.out w6 b6.out)
          clear hA KA en hen
          have hOe := hbad.out (by decide)
          have z1 : O.1.length = 0 := by rw [hOe]; rfl
          have z2 : O.2.length = 0 := by rw [hOe]; rfl
          clear hbad hO hOe i6 j6 s6 fin
          go_wp2_with fail
          go_roundw
          case rel => exact ⟨_, cnt5, F6, B6⟩
          case measure => rw [F6.out.left_eq, hrg.out.left_eq]; exact C5.out
    · have t2 : decide (50 < size) = false := by simpa using c2
      by_cases c3 : 2000 < refs.length
      · obtain rfl : y = 2 := hyv.out.2.2.1 (by omega) (by omega) c3
        have t3 : decide ((2000 : Int) < (refs.length : Int)) = true := by simp; omega
        have t4 : (2000 : Int) < (refs.length : Int) := by omega
        clear hyv KC KP HL
        go_enter Try.func8, Try.ntmps8
        go_wp2_with fail
        refine (HC.out).mono ?_
        rintro rr wx ⟨rfl, rfl⟩
        go_wp2_with (at_range; refine wpList_range_own _ rfl _ 96 rfl 3 95 law3 Try.underlying96 fnElem wx.heap.size 4 (fnD 4) rfl o4 ?_; intro w0 hrg0 hg0 hs0)
        have R0 := hid hrg0
        have B0 : Hid (Below wx.heap.size wx w0) := B4.out.grown hg0 B4.out.size (fun k hk => by cases hk)
        clear hrg0 hg0 hs0 o4 HC
        go_frame
        go_loopw [6] (fun _ wr => ∃ (left : Lit → Bool) (cnt : Nat), Hid (wr.ranges Try.prog 3 fnElem wx.heap.size w4.heap.size 4 (fnD 4) left cnt) ∧ Hid (Below wx.heap.size wx wr)) (fun _ wr => wr.rangeLeft wx.heap.size w4.heap.size)
        case atStart => exact ⟨_, _, R0.out, B0.out⟩
        case round =>
          obtain ⟨left, cnt, hrg, hB⟩ := hrel
          go_wp2_with (at_next; refine wpList_next_ranges _ rfl _ rfl 3 law3 fnElem (Value.int .i64) fnV (fun key kl hk => by obtain ⟨x, rfl, _⟩ := keyOf_int_inv Try.underlying3 hk; exact ⟨x, rfl⟩) (fun v y hv => by obtain ⟨n, rfl, _⟩ := fnElem_inv hv; exact ⟨n, rfl⟩) wx.heap.size w4.heap.size 4 _ _ _ rfl hrg.out ?_ ?_)
          · intro _ hl0
            clear hl0
            go_wp2_with fail
            go_ret
            exact ⟨rfl, hB.out⟩
          · intro x f kl yd yp w5 cnt5 hkey hlk hR hat hrg5 hlt5 hg5 hs5 hen
            obtain ⟨x', ex, rfl, _⟩ := keyOf_int_inv Try.underlying3 hkey
            cases ex
            rw [fnElem_mk] at hR
            cases hR
            obtain ⟨j, hj4, rfl, rfl⟩ := fn_at 4 hat
            have hrl := ranges_lt hrg.out
            have B5 : Hid (Below wx.heap.size wx w5) := hB.out.grown hg5 hB.out.size (fun k hk => by cases hk; exact B4.out.size)
            have R5 := hid hrg5
            have C5 : Hid (cnt5 < cnt) := hlt5
            have fin : Hid (∀ w9, Below w5.heap.size w5 w9 → w9.ranges Try.prog 3 fnElem wx.heap.size w4.heap.size 4 (fnD 4) (fun z => left z && !z.sameKey (.int .i64 (j : Int))) cnt5) := fun w9 hb9 => ranges_of hrg5 (hb9.block _ (ranges_lt hrg5).1) (hb9.block _ (ranges_lt hrg5).2)
            obtain ⟨f, O, ef, en, KA, hbad, hO⟩ := KF.out j w5 B5.out
            rw [ef] at hen ⊢
            clear hkey hlk hat hrg5 hlt5 hg5 hs5 ef hrl R5
            go_wp2_with fail
            refine (KA.out).mono ?_
            rintro rr w6 hA
            obtain ⟨p1, q1, p2, q2, rfl, i6, j6, s6, b6⟩ := hA.take
            have B6 := below_to B5.out b6.out
            have F6 := hid (fin.out w6 b6.out)
            clear hA KA en hen
            have hOe := hbad.out (by decide)
            have z1 : O.1.length = 0 := by rw [hOe]; rfl
            have z2 : O.2.length = 0 := by rw [hOe]; rfl
            clear hbad hO hOe i6 j6 s6 fin
            go_wp2_with fail
            go_roundw
            case rel => exact ⟨_, cnt5, F6, B6⟩
            case measure => rw [F6.out.left_eq, hrg.out.left_eq]; exact C5.out
      · obtain rfl : y = 0 := hyv.out.2.2.2 (by omega) (by omega) c3
        have t3 : decide ((2000 : Int) < (refs.length : Int)) = false := by simp; omega
        have t4 : ¬ (2000 : Int) < (refs.length : Int) := by omega
        clear hyv
        go_enter Try.func8, Try.ntmps8
        go_wp2_with fail
        refine (HC.out).mono ?_
        rintro rr wx ⟨rfl, rfl⟩
        go_wp2_with (at_range; refine wpList_range_own _ rfl _ 96 rfl 3 95 law3 Try.underlying96 fnElem wx.heap.size 4 (fnD 4) rfl o4 ?_; intro w0 hrg0 hg0 hs0)
        have R0 := hid hrg0
        have B0 : Hid (Below wx.heap.size wx w0) := B4.out.grown hg0 B4.out.size (fun k hk => by cases hk)
        clear hrg0 hg0 hs0 o4 HC
        go_frame
        go_loopw [6] (fun _ wr => ∃ (left : Lit → Bool) (cnt : Nat), Hid (wr.ranges Try.prog 3 fnElem wx.heap.size w4.heap.size 4 (fnD 4) left cnt) ∧ Hid (Below wx.heap.size wx wr)) (fun _ wr => wr.rangeLeft wx.heap.size w4.heap.size)
        case atStart => exact ⟨_, _, R0.out, B0.out⟩
        case round =>
          obtain ⟨left, cnt, hrg, hB⟩ := hrel
          go_wp2_with (at_next; refine wpList_next_ranges _ rfl _ rfl 3 law3 fnElem (Value.int .i64) fnV (fun key kl hk => by obtain ⟨x, rfl, _⟩ := keyOf_int_inv Try.underlying3 hk; exact ⟨x, rfl⟩) (fun v y hv => by obtain ⟨n, rfl, _⟩ := fnElem_inv hv; exact ⟨n, rfl⟩) wx.heap.size w4.heap.size 4 _ _ _ rfl hrg.out ?_ ?_)
          · intro _ hl0
            clear hl0
            go_wp2_with fail
            go_ret
            exact ⟨rfl, hB.out⟩
          · intro x f kl yd yp w5 cnt5 hkey hlk hR hat hrg5 hlt5 hg5 hs5 hen
            obtain ⟨x', ex, rfl, _⟩ := keyOf_int_inv Try.underlying3 hkey
            cases ex
            rw [fnElem_mk] at hR
            cases hR
            obtain ⟨j, hj4, rfl, rfl⟩ := fn_at 4 hat
            have hrl := ranges_lt hrg.out
            have B5 : Hid (Below wx.heap.size wx w5) := hB.out.grown hg5 hB.out.size (fun k hk => by cases hk; exact B4.out.size)
            have R5 := hid hrg5
            have C5 : Hid (cnt5 < cnt) := hlt5
            have fin : Hid (∀ w9, Below w5.heap.size w5 w9 → w9.ranges Try.prog 3 fnElem wx.heap.size w4.heap.size 4 (fnD 4) (fun z => left z && !z.sameKey (.int .i64 (j : Int))) cnt5) := fun w9 hb9 => ranges_of hrg5 (hb9.block _ (ranges_lt hrg5).1) (hb9.block _ (ranges_lt hrg5).2)
            obtain ⟨f, O, ef, en, KA, hbad, hO⟩ := KF.out j w5 B5.out
            rw [ef] at hen ⊢
            clear hkey hlk hat hrg5 hlt5 hg5 hs5 ef hrl R5
            go_wp2_with fail
            refine (KA.out).mono ?_
            rintro rr w6 hA
            obtain ⟨p1, q1, p2, q2, rfl, i6, j6, s6, b6⟩ := hA.take
            have B6 := below_to B5.out b6.out
            have F6 := hid (fin.out w6 b6.out)
            clear hA KA en hen
            clear hbad s6
            have hl := HL.out j
            rw [← hO.out] at hl
            obtain ⟨l1, l2⟩ := hl
            obtain ⟨Oc, hOc⟩ : ∃ Oc, Oc = outOf size refs 3 := ⟨_, rfl⟩
            have KC6 : Hid (Calls Try.prog 67 #[.int .i64 size, .slice sa refs.length c] w6 fun e w' => ∃ a1 c1 a2 c2, e = .returned (.tuple #[.slice a1 Oc.1.length c1, .slice a2 Oc.2.length c2]) ∧ BoolsAt w' a1 Oc.1 ∧ IntsAt w' a2 Oc.2 ∧ Below w6.heap.size w6 w') := by rw [hOc]; exact KC.out trivial w6 B6.out
            have HOc := hid hOc
            clear hOc
            go_wp2_with fail
            refine (KC6.out).mono ?_
            rintro rr w7 ⟨p3, q3, p4, q4, rfl, i7, j7, b7⟩
            have I7 := hid i7
            have J7 := hid j7
            have B7 := below_to B6.out b7
            have b67 := hid (below_to b6.out b7).out
            have I6 := hid (i6.out.below b7)
            have J6 := hid (j6.out.below b7)
            clear i7 j7 b7 KC6 i6 j6 B6 F6 b6
            by_cases h3 : j < 3
            · have q5 : decide ((j : Int) < 3) = true := by simp; omega
              have q6 : (j : Int) < 3 := by omega
              have KP7 : Hid (Calls Try.prog 68 #[.int .i64 (j : Int), .int .i64 size, .slice sa refs.length c] w7 fun e w' => ∃ a1 c1 a2 c2, e = .returned (.tuple #[.slice a1 O.1.length c1, .slice a2 O.2.length c2]) ∧ BoolsAt w' a1 O.1 ∧ IntsAt w' a2 O.2 ∧ Below w7.heap.size w7 w') := by rw [hO.out]; exact KP.out trivial j h3 w7 B7.out
              clear hO HOc
              go_wp2_with fail
              refine (KP7.out).mono ?_
              rintro rr w8 ⟨p5, q7, p6, q8, rfl, i8, j8, b8⟩
              have E1 := hid (eqBools_any w8 p1 p5 q1 q7 O.1 O.1 (I6.out.below b8) i8 (by omega))
              have J8 := hid j8
              have J68 := hid (J6.out.below b8)
              have B8 := below_to B7.out b8
              have b68 := hid (below_to b67.out b8).out
              rw [decide_eq_true rfl] at E1
              clear i8 j8 b8 KP7 I6 J6 I7 J7
              go_wp2_with fail
              refine (E1.out).mono ?_
              rintro rr w9 ⟨rfl, b9⟩
              have E2 := hid (eqInts_any w9 p2 p6 q2 q8 O.2 O.2 (J68.out.below b9) (J8.out.below b9) (by omega))
              have B9 := below_to B8.out b9
              have b69 := hid (below_to b68.out b9).out
              rw [decide_eq_true rfl] at E2
              clear b9 E1 J8 J68 B8 b68
              go_wp2_with fail
              refine (E2.out).mono ?_
              rintro rr w10 ⟨rfl, b10⟩
              have B10 := below_to B9.out b10
              have F10 := hid (fin.out w10 (below_to b69.out b10).out)
              clear b10 E2 B9 b69 fin
              go_wp2_with fail
              go_roundw
              case rel => exact ⟨_, cnt5, F10, B10⟩
              case measure => rw [F10.out.left_eq, hrg.out.left_eq]; exact C5.out
            · obtain rfl : j = 3 := by omega
              have I6' : Hid (BoolsAt w7 p1 Oc.1) := by rw [HOc.out, ← hO.out]; exact I6.out
              have hOO : O = Oc := by rw [hO.out, HOc.out]
              subst hOO
              have E1 := hid (eqBools_any w7 p1 p3 q1 q3 O.1 O.1 I6.out I7.out (by omega))
              rw [decide_eq_true rfl] at E1
              have J8 := hid J7.out
              have J68 := hid J6.out
              have B8 := hid B7.out
              have b68 := hid b67.out
              clear hO HOc I6' I6 J6 I7 J7
              go_wp2_with fail
              refine (E1.out).mono ?_
              rintro rr w9 ⟨rfl, b9⟩
              have E2 := hid (eqInts_any w9 p2 p4 q2 q4 O.2 O.2 (J68.out.below b9) (J8.out.below b9) (by omega))
              have B9 := below_to B8.out b9
              have b69 := hid (below_to b68.out b9).out
              rw [decide_eq_true rfl] at E2
              clear b9 E1 J8 J68 B8 b68
              go_wp2_with fail
              refine (E2.out).mono ?_
              rintro rr w10 ⟨rfl, b10⟩
              have B10 := below_to B9.out b10
              have F10 := hid (fin.out w10 (below_to b69.out b10).out)
              clear b10 E2 B9 b69 fin
              go_wp2_with fail
              go_roundw
              case rel => exact ⟨_, cnt5, F10, B10⟩
              case measure => rw [F10.out.left_eq, hrg.out.left_eq]; exact C5.out

end Go.Proofs.Ytlcpioeobnjcdaa.PPool
