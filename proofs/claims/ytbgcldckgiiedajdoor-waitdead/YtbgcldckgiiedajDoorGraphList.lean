/- set.list, walked: the nodes of a set, rising, in a row of one's own; nothing that was there has turned. Conditions: the table of the library is as its initialiser lays it. -/
import Derived.Test.YtbgcldckgiiedajDoorGraphTz
import Derived.Test.YtbgcldckgiiedajDoorGraphNat
namespace Go.Proofs.YtbgcldckgiiedajDoor.PGraph
open Go Go.RowKit PPool
set_option maxRecDepth 100000

theorem and_less (t : Nat) (h : t ≠ 0) : t &&& (t - 1) < t := by
  have := Nat.and_le_right (n := t) (m := t - 1)
  omega
set_option maxHeartbeats 2000000 in
theorem list_any (w : World) (s : Nat) (hs : s < 18446744073709551616) (hT : Tab w) :
    Calls Tryd.prog 15 #[.int .u64 (s : Int)] w fun e w' => ∃ v, e = .returned v ∧ OwnNats w' w.heap.size v (Gr.up s) ∧ Below w.heap.size w w' := by
  have HT := hid hT
  have KZ := hid fun W x => tz_any W x
  obtain ⟨i0, hi, hz0, hz1, hz2⟩ := info_parts int_info3
  clear hT
  go_enter Tryd.func15, Tryd.ntmps15
  go_wp2_with fail
  go_loopw [0, 3] (fun x v wr => ∃ (t : Nat) (D : List Nat), t < 18446744073709551616 ∧ x = .int .u64 (t : Int) ∧ OwnNats wr w.heap.size v D ∧ Hid (D ++ Gr.up t = Gr.up s) ∧ Hid (Below w.heap.size w wr)) (fun x _ _ => (intOf x).toNat)
  case atStart => exact ⟨s, [], hs, rfl, OwnR.nil _ _, by show _ = _; simp, Below.refl _ _⟩
  case round =>
    obtain ⟨t, D, ht, rfl, hown, hD, hb⟩ := hrel
    by_cases h0 : t = 0
    · subst h0
      have j1 : (((0 : Nat) : Int) != 0) = false := rfl
      have HD : Hid (D = Gr.up s) := by show _ = _; rw [← hD.out, Gr.up_zero, List.append_nil]
      have HO := hid hown
      clear hown hD
      go_wp2_with fail
      go_ret
      exact ⟨_, rfl, by rw [← HD.out]; exact HO.out, hb.out⟩
    · have j1 : ((t : Int) != 0) = true := by simp; omega
      have HT2 := HT.out.below hb.out
      have HK := hid (KZ.out wr t ht h0 HT2)
      have hlen : D.length ≤ 64 := by
        have := congrArg List.length hD.out
        have := Gr.up_len s
        rw [List.length_append] at *
        omega
      have HD : Hid (D ++ [Go.Lib.ctz 64 t] ++ Gr.up (t &&& (t - 1)) = Gr.up s) := by
        show _ = _
        rw [← hD.out, Gr.up_step h0 (by simpa using ht), List.append_assoc]
        rfl
      have hs1 : IntKind.u64.wrap ((t : Int) - 1) = ((t - 1 : Nat) : Int) := by rw [IntKind.wrap_u64]; omega
      have hs2 : bits .and .u64 (t : Int) ((t - 1 : Nat) : Int) = ((t &&& (t - 1) : Nat) : Int) := u64_and_nat t (t - 1) ht (by omega)
      have hlt := and_less t h0
      have hown1 : wr.ownsRow w.heap.size 3 1 _ D.length (D.map nc) := hown
      obtain ⟨t2, ht2⟩ : ∃ t2, t2 = t &&& (t - 1) := ⟨_, rfl⟩
      obtain ⟨t1, ht1⟩ : ∃ t1, t1 = t - 1 := ⟨_, rfl⟩
      obtain ⟨z, hz⟩ : ∃ z, z = Go.Lib.ctz 64 t := ⟨_, rfl⟩
      rw [← ht2] at HD hs2 hlt
      rw [← ht1] at hs1 hs2
      rw [← hz] at HD HK
      clear ht2 ht1 hz hown hD HT2
      have hbs := hb.out.size
      go_wp2_with fail
      refine (HK.out).mono ?_
      rintro r w1 ⟨rfl, rfl⟩
      go_wp2_with (at_builtin; refine wpList_append_own _ rfl _ _ 23 rfl w.heap.size 3 i0 (.int .i64 0) 1 8 Tryd.underlying23 hi hz0 hz1 hz2 rfl (by decide) _ _ _ rfl (hown1.alloc _) ⟨w1.heap.size, 0, none⟩ 1 1 [nc z] rfl rfl ?c1 ?c2 ?c3 ?c4 ?c5 ?_)
      case c1 => exact cell_one_new _ _ _
      case c2 => exact nats_one [z]
      case c3 => unfold maxLen; omega
      case c4 => omega
      case c5 => simp; omega
      intro v' w4 hown' hgrow hnil
      have O4 : OwnNats w4 w.heap.size v' (D ++ [z]) := OwnR.grows hown'
      have B4 : Hid (Below w.heap.size w w4) := (hb.out.alloc hbs _).grown hgrow (by rw [World.size_alloc]; omega) (fun b hb => (hown1.lt b hb).1)
      clear hown' hgrow hnil hown1 HK
      go_wp2_with fail
      go_roundw
      case rel => exact ⟨t2, D ++ [z], by omega, rfl, O4, HD, B4⟩
      case measure => simp [intOf]; omega
end Go.Proofs.YtbgcldckgiiedajDoor.PGraph
