/- Go's slices.Equal at locks, walked. Conditions: lengths that an int holds. -/
import Derived.Test.YtjoaedkgjnchoanLockLib
namespace Go.Proofs.Ytjoaedkgjnchoan.PLock
open Go Go.RowKit PPool
set_option maxRecDepth 100000

theorem take_next {l1 l2 : List Lk.Lo} {k : Nat} {t : Lk.Lo} (h : l1.take k = l2.take k) (h1 : l1[k]? = some t) (h2 : l2[k]? = some t) : l1.take (k + 1) = l2.take (k + 1) := by
  obtain ⟨a1, b1⟩ := List.getElem?_eq_some_iff.1 h1
  obtain ⟨a2, b2⟩ := List.getElem?_eq_some_iff.1 h2
  rw [List.take_succ_eq_append_getElem a1, List.take_succ_eq_append_getElem a2, h, b1, b2]
theorem block_eq (u1 u2 t1 t2 : Int) (w : World) : (Op.equalIn 10000 62 (.agg #[.int .i64 u1, .int .i64 t1]) (.agg #[.int .i64 u2, .int .i64 t2])).run Try.prog w = .ok (u1 == u2 && t1 == t2) w := by
  have u3 := Try.underlying3
  have a3 := Try.isAgg3
  have z3 := Try.sizeOf3
  have hS : Try.prog.underlying 62 = some (.struct (Try.prog.fieldsOf 62)) := by kernel_rfl
  have hp : Try.prog.stoodInHeld 62 = false := by kernel_rfl
  rw [show (10000 : Nat) = 9999 + 1 from rfl, run_equalIn_agg w 9999 62 _ _ hS hp]
  simp only [Program.fieldsOf, Try.underlying62]
  go_simp
  by_cases h1 : u1 = u2 <;> by_cases h2 : t1 = t2 <;> simp [h1, h2]

set_option maxHeartbeats 2000000 in
theorem equal_any (w : World) (a1 a2 : Option Addr) (c1 c2 : Nat) (l1 l2 : List Lk.Lo) (h1 : LkAt w a1 l1) (h2 : LkAt w a2 l2) (hl1 : l1.length ≤ 9223372036854775807) (hl2 : l2.length ≤ 9223372036854775807) :
    Calls Try.prog 55 #[.slice a1 l1.length c1, .slice a2 l2.length c2] w fun e w' => e = .returned (.bool (decide (l1 = l2))) ∧ Below w.heap.size w w' := by
  obtain ⟨Y, hY⟩ : ∃ Y, Y = decide (l1 = l2) := ⟨_, rfl⟩
  rw [← hY]
  have HY := hid hY
  clear hY
  by_cases hl : l1.length = l2.length
  · have hb : ((l1.length : Int) != (l2.length : Int)) = false := by simp; omega
    have hb2 : (l1.length != l2.length) = false := by simp; omega
    have H1 := hid h1
    have H2 := hid h2
    have HL := hid hl
    clear h1 h2 hl
    go_enter Try.func55, Try.ntmps55
    go_wp2_with fail
    go_loopw [13] (fun i wr => ∃ k : Nat, k ≤ l1.length ∧ i = .int .i64 (k : Int) ∧ Hid (l1.take k = l2.take k) ∧ Hid (Below w.heap.size w wr)) (fun i _ => l1.length - (intOf i).toNat)
    case atStart => exact ⟨0, Nat.zero_le _, rfl, by show _ = _; simp, Below.refl _ _⟩
    case round =>
      obtain ⟨k, hk, rfl, ht, hbel⟩ := hrel
      by_cases hlt : k < l1.length
      · have hlt2 : k < l2.length := by have := HL.out; omega
        obtain ⟨x1, hx1⟩ : ∃ t, l1[k]? = some t := ⟨_, List.getElem?_eq_getElem hlt⟩
        obtain ⟨x2, hx2⟩ : ∃ t, l2[k]? = some t := ⟨_, List.getElem?_eq_getElem hlt2⟩
        obtain ⟨b1, o1, rfl, d1, d1'⟩ := (H1.out.below hbel.out) k x1 hx1
        obtain ⟨b2, o2, rfl, d2, d2'⟩ := (H2.out.below hbel.out) k x2 hx2
        have k0 : (0 : Int) ≤ (k : Int) := by omega
        have k1 : (k : Int) < (l1.length : Int) := by omega
        have k2 : (k : Int) < (l2.length : Int) := by omega
        by_cases e : x1 = x2
        · subst e
          have NX := hid (take_next ht.out hx1 hx2)
          have hq := block_eq x1.x x1.x x1.m x1.m
          simp only [beq_self_eq_true, Bool.and_self] at hq
          clear hx1 hx2 ht
          go_wp2_with fail
          go_quiet (fail)
          go_wp2_with fail
          go_roundw
          case rel => exact ⟨k + 1, by omega, by go_num, NX, hid (below_drewN hbel.out _)⟩
          case measure => simp [intOf]; omega
        · have hq := block_eq x1.x x2.x x1.m x2.m
          have e1 : (x1.x == x2.x && x1.m == x2.m) = false := by
            rw [Bool.eq_false_iff]
            intro hh
            rw [Bool.and_eq_true] at hh
            obtain ⟨g1, g2⟩ := hh
            apply e
            cases x1; cases x2
            simp only [Lk.Lo.mk.injEq]
            exact ⟨by simpa using g1, by simpa using g2⟩
          rw [e1] at hq
          have HF : Hid (Y = false) := by
            show _ = _
            rw [HY.out, decide_eq_false_iff_not]
            rintro rfl
            rw [hx1] at hx2
            exact e (Option.some.inj hx2)
          clear hx1 hx2 ht HY
          go_wp2_with fail
          go_quiet (fail)
          go_wp2_with fail
          go_ret
          exact ⟨by rw [HF.out]; rfl, below_drewN hbel.out _⟩
      · obtain rfl : k = l1.length := by omega
        have HT : Hid (Y = true) := by
          show _ = _
          have := ht.out
          rw [List.take_length, HL.out, List.take_length] at this
          rw [HY.out, decide_eq_true_iff]
          exact this
        have j1 : decide ((l1.length : Int) < (l1.length : Int)) = false := by simp
        clear ht HY
        go_wp2_with fail
        go_ret
        exact ⟨by rw [HT.out]; rfl, hbel.out⟩
  · have hb : ((l1.length : Int) != (l2.length : Int)) = true := by simp; omega
    have hb2 : (l1.length != l2.length) = true := by simp; omega
    have HN : Hid (Y = false) := by show _ = _; rw [HY.out, decide_eq_false_iff_not]; exact fun e => hl (by rw [e])
    clear h1 h2 hl HY
    go_enter Try.func55, Try.ntmps55
    go_wp2_with fail
    go_ret
    exact ⟨by rw [HN.out]; rfl, Below.refl _ _⟩

end Go.Proofs.Ytjoaedkgjnchoan.PLock
