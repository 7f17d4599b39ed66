/- A deed to both disks: a Write; and any. -/
import Derived.Test.YtbemaiiloljocaaSectTwo
namespace Go.Proofs.Ytbemaiiloljocaa
open Go Go.RowKit
set_option maxRecDepth 100000

set_option maxHeartbeats 4000000 in
theorem deed_write (w : World) (p : DP) (rb : Nat) (F : Nat → FR) (d : SD) (xn : Int) (pa : Option Addr) (K : List Bool) (h : Deed1 w p rb F d xn pa K) (xt : ByteArray) (pc : Nat) :
    Calls Try.prog 29 #[.pointer (some ⟨p.b, 0, none⟩), .pointer (some ⟨rb, 0, none⟩), .agg #[.int .i64 0, .int .i64 xn, .string xt, .slice pa K.length pc]] w fun e w' =>
      ∃ p' F', p'.b = p.b ∧ e = .returned (.bool true) ∧ Two w' p' rb F' (d.write xn xt).2 (d.write xn xt).2 ∧ Goes (own2 p rb F) w w' (own2 p' rb F') := by
  have B := h.two.box #[.int .i64 0, .int .i64 xn, .string xt, .slice pa K.length pc]
  have HA' := hid (write_any (w.alloc (.cells #[.int .i64 0, .int .i64 xn, .string xt, .slice pa K.length pc] 51)).drew p d B.1.drew.disk xn xt h.room)
  have HR' : Hid (∀ w1 p', Two w1 p' rb F (d.write xn xt).2 d → _) := fun w1 p' (h1 : Two w1 p' rb F (d.write xn xt).2 d) => ref_write w1 rb F d h1.ref xn xt (room16 _ h.room).1
  have HB := hid B
  generalize (d.write xn xt).1 = c at HA' HR'
  have x1 : (w.alloc (.cells #[.int .i64 0, .int .i64 xn, .string xt, .slice pa K.length pc] 51)).drew.cell? ⟨w.heap.size, 1, none⟩ = some (.int .i64 xn) := box_cell B.2.2.2 (Goes.refl (own2 p rb F) _).drew B.2.2.1 1
  have x2 : (w.alloc (.cells #[.int .i64 0, .int .i64 xn, .string xt, .slice pa K.length pc] 51)).drew.cell? ⟨w.heap.size, 2, none⟩ = some (.string xt) := box_cell B.2.2.2 (Goes.refl (own2 p rb F) _).drew B.2.2.1 2
  clear h B
  go_enter Try.func29, Try.ntmps29
  go_wp2_with fail
  go_region_held3 (fun W => W.cell? ⟨w.heap.size, 1, none⟩ = some (.int .i64 xn) ∧ W.cell? ⟨w.heap.size, 2, none⟩ = some (.string xt))
    (first | (go_split_ands; exact ⟨by assumption, by assumption⟩))
    ((first | (go_at_call 37; refine HA'.out.mono ?_; rintro r w1 ⟨p', hp', rfl, h1, g1⟩; have T1 := hid (HB.out.1.drew.left h1 g1); have HP := hid hp'; have y1 : w1.cell? ⟨w.heap.size, 1, none⟩ = some (.int .i64 xn) := box_cell HB.out.2.2.2 ((Goes.refl _ _).drew.trans T1.out.2) HB.out.2.2.1 1; have y2 : w1.cell? ⟨w.heap.size, 2, none⟩ = some (.string xt) := box_cell HB.out.2.2.2 ((Goes.refl _ _).drew.trans T1.out.2) HB.out.2.2.1 2; clear h1 g1 hp') | (go_at_call 38; refine (HR'.out w1 p' T1.out.1).mono ?_; rintro r w2 ⟨F', rfl, h2, g2⟩; have T2 := hid (T1.out.1.right h2 g2); have z1 : w2.cell? ⟨w.heap.size, 1, none⟩ = some (.int .i64 xn) := box_cell HB.out.2.2.2 (((Goes.refl _ _).drew.trans T1.out.2).trans T2.out.2) HB.out.2.2.1 1; have z2 : w2.cell? ⟨w.heap.size, 2, none⟩ = some (.string xt) := box_cell HB.out.2.2.2 (((Goes.refl _ _).drew.trans T1.out.2).trans T2.out.2) HB.out.2.2.1 2; clear h2 g2)))
  all_goals skip
  go_wp2_with fail
  go_ret
  exact ⟨p', F', HP.out, rfl, T2.out.1, (HB.out.2.1.drew.trans T1.out.2).trans T2.out.2⟩

theorem deed_any (w : World) (p : DP) (rb : Nat) (F : Nat → FR) (d : SD) (xn : Int) (pa : Option Addr) (K : List Bool) (h : Deed1 w p rb F d xn pa K) (xk : Int) (xt : ByteArray) (pc : Nat) :
    Calls Try.prog 29 #[.pointer (some ⟨p.b, 0, none⟩), .pointer (some ⟨rb, 0, none⟩), .agg #[.int .i64 xk, .int .i64 xn, .string xt, .slice pa K.length pc]] w fun e w' =>
      ∃ p' F', p'.b = p.b ∧ e = .returned (.bool true) ∧ Two w' p' rb F' (d.deed xk xn xt K) (d.deed xk xn xt K) ∧ Goes (own2 p rb F) w w' (own2 p' rb F') := by
  unfold SD.deed
  by_cases k0 : xk = 0
  · subst k0
    rw [if_pos rfl]
    exact deed_write w p rb F d xn pa K h xt pc
  · rw [if_neg k0]
    by_cases k1 : xk = 1
    · subst k1
      rw [if_pos rfl]
      exact deed_read w p rb F d xn pa K h xt pc
    · rw [if_neg k1]
      by_cases k2 : xk = 2
      · subst k2
        rw [if_pos rfl]
        exact deed_flush w p rb F d xn pa K h xt pc
      · rw [if_neg k2]
        by_cases k3 : xk = 3
        · subst k3
          rw [if_pos rfl]
          exact deed_fuse w p rb F d xn pa K h xt pc
        · rw [if_neg k3]
          exact deed_crash w p rb F d xn pa K h xk k0 k1 k2 k3 xt pc

end Go.Proofs.Ytbemaiiloljocaa
