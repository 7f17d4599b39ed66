/- slices.Equal at numbers, walked; rows of nodes as rows of numbers. Conditions: lengths that an int holds. -/
import Derived.Test.YtbgcldckgiiedajDoorGraphNat
import Derived.Deep.QuietTactic
import Derived.BigQuiet
namespace Go.Proofs.YtbgcldckgiiedajDoor.PGraph
open Go Go.RowKit PPool
set_option maxRecDepth 100000

theorem take_next {α : Type} {l1 l2 : List α} {k : Nat} {t : α} (h : l1.take k = l2.take k) (h1 : l1[k]? = some t) (h2 : l2[k]? = some t) : l1.take (k + 1) = l2.take (k + 1) := by
  obtain ⟨a1, b1⟩ := List.getElem?_eq_some_iff.1 h1
  obtain ⟨a2, b2⟩ := List.getElem?_eq_some_iff.1 h2
  rw [List.take_succ_eq_append_getElem a1, List.take_succ_eq_append_getElem a2, h, b1, b2]

set_option maxHeartbeats 400000 in
theorem eqInts_any (w : World) (a1 a2 : Option Addr) (c1 c2 : Nat) (l1 l2 : List Int) (h1 : IntsAt w a1 l1) (h2 : IntsAt w a2 l2) (hl1 : l1.length ≤ 9223372036854775807) :
    Calls Tryd.prog 6 #[.slice a1 l1.length c1, .slice a2 l2.length c2] w fun e w' => e = .returned (.bool (decide (l1 = l2))) ∧ Below w.heap.size w w' := by
  obtain ⟨Y, hY⟩ : ∃ Y, Y = decide (l1 = l2) := ⟨_, rfl⟩
  rw [← hY]
  have HY := hid hY
  clear hY
  by_cases hl : l1.length = l2.length
  · have hb : ((l1.length : Int) != (l2.length : Int)) = false := by simp; omega
    have hb2 : (l1.length != l2.length) = false := by simp; omega
    have H1 := hid h1
    have H2 := hid h2
    have HL := hid hl
    clear h1 h2 hl
    go_enter Tryd.func6, Tryd.ntmps6
    go_wp2_with fail
    go_loopw [13] (fun i wr => ∃ k : Nat, k ≤ l1.length ∧ i = .int .i64 (k : Int) ∧ Hid (l1.take k = l2.take k) ∧ Hid (Below w.heap.size w wr)) (fun i _ => l1.length - (intOf i).toNat)
    case atStart => exact ⟨0, Nat.zero_le _, rfl, by show _ = _; simp, Below.refl _ _⟩
    case round =>
      obtain ⟨k, hk, rfl, ht, hbel⟩ := hrel
      by_cases hlt : k < l1.length
      · have hlt2 : k < l2.length := by have := HL.out; omega
        obtain ⟨x1, hx1⟩ : ∃ t, l1[k]? = some t := ⟨_, List.getElem?_eq_getElem hlt⟩
        obtain ⟨x2, hx2⟩ : ∃ t, l2[k]? = some t := ⟨_, List.getElem?_eq_getElem hlt2⟩
        obtain ⟨b1, o1, rfl, d1⟩ := (H1.out.below hbel.out) k x1 hx1
        obtain ⟨b2, o2, rfl, d2⟩ := (H2.out.below hbel.out) k x2 hx2
        have k0 : (0 : Int) ≤ (k : Int) := by omega
        have k1 : (k : Int) < (l1.length : Int) := by omega
        have k2 : (k : Int) < (l2.length : Int) := by omega
        by_cases e : x1 = x2
        · subst e
          have NX := hid (take_next ht.out hx1 hx2)
          have hq : (x1 != x1) = false := by simp
          clear hx1 hx2 ht
          go_wp2_with fail
          go_quiet (fail)
          go_wp2_with fail
          go_roundw
          case rel => exact ⟨k + 1, by omega, by go_num, NX, hid (below_drewN hbel.out _)⟩
          case measure => simp [intOf]; omega
        · have hq : (x1 != x2) = true := by simpa using e
          have HF : Hid (Y = false) := by
            show _ = _
            rw [HY.out, decide_eq_false_iff_not]
            rintro rfl
            rw [hx1] at hx2
            exact e (Option.some.inj hx2)
          clear hx1 hx2 ht HY
          go_wp2_with fail
          go_quiet (fail)
          go_wp2_with fail
          go_ret
          exact ⟨by rw [HF.out]; rfl, below_drewN hbel.out _⟩
      · obtain rfl : k = l1.length := by omega
        have HT : Hid (Y = true) := by
          show _ = _
          have := ht.out
          rw [List.take_length, HL.out, List.take_length] at this
          rw [HY.out, decide_eq_true_iff]
          exact this
        have j1 : decide ((l1.length : Int) < (l1.length : Int)) = false := by simp
        clear ht HY
        go_wp2_with fail
        go_ret
        exact ⟨by rw [HT.out]; rfl, hbel.out⟩
  · have hb : ((l1.length : Int) != (l2.length : Int)) = true := by simp; omega
    have hb2 : (l1.length != l2.length) = true := by simp; omega
    have HN : Hid (Y = false) := by show _ = _; rw [HY.out, decide_eq_false_iff_not]; exact fun e => hl (by rw [e])
    clear h1 h2 hl HY
    go_enter Tryd.func6, Tryd.ntmps6
    go_wp2_with fail
    go_ret
    exact ⟨by rw [HN.out]; rfl, Below.refl _ _⟩


def ints (l : List Nat) : List Int := l.map (fun k : Nat => (k : Int))
theorem ints_len (l : List Nat) : (ints l).length = l.length := List.length_map ..
theorem ints_inj {l m : List Nat} : ints l = ints m ↔ l = m := by
  constructor
  · intro h
    exact List.map_inj_right (fun a b e => Int.ofNat.inj e) |>.1 h
  · rintro rfl; rfl
theorem ints_mem {l : List Nat} {k : Nat} : (k : Int) ∈ ints l ↔ k ∈ l := by
  unfold ints
  rw [List.mem_map]
  constructor
  · rintro ⟨a, h, e⟩
    have : a = k := Int.ofNat.inj e
    rwa [← this]
  · exact fun h => ⟨k, h, rfl⟩
theorem nats_ints {w : World} {a : Option Addr} {l : List Nat} (h : NatsAt w a l) : IntsAt w a (ints l) := fun j x hx => by
  unfold ints at hx
  rw [List.getElem?_map] at hx
  cases hl : l[j]? with
  | none => rw [hl] at hx; cases hx
  | some y =>
    rw [hl] at hx
    cases hx
    exact h j y hl
theorem eqNats_any (w : World) (a1 a2 : Option Addr) (c1 c2 : Nat) (l1 l2 : List Nat) (h1 : NatsAt w a1 l1) (h2 : NatsAt w a2 l2) (hl1 : l1.length ≤ 9223372036854775807) :
    Calls Tryd.prog 6 #[.slice a1 l1.length c1, .slice a2 l2.length c2] w fun e w' => e = .returned (.bool (decide (l1 = l2))) ∧ Below w.heap.size w w' := by
  have := eqInts_any w a1 a2 c1 c2 (ints l1) (ints l2) (nats_ints h1) (nats_ints h2) (by rw [ints_len]; exact hl1)
  rw [ints_len, ints_len, show decide (ints l1 = ints l2) = decide (l1 = l2) from by simp only [ints_inj]] at this
  exact this
end Go.Proofs.YtbgcldckgiiedajDoor.PGraph
