/- slices.Index and Contains at numbers, walked. Conditions: lengths that an int holds. -/
import Derived.Test.YtbgcldckgiiedajDoorGraphEq
import Derived.Deep.RegionHeld3
namespace Go.Proofs.YtbgcldckgiiedajDoor.PGraph
open Go Go.RowKit PPool
set_option maxRecDepth 100000

/-- A number's place, or -1. -/
def place (X : List Int) (x : Int) : Int := if x ∈ X then (X.idxOf x : Int) else -1
theorem idx_first {X : List Int} {x : Int} {k : Nat} (hk : X[k]? = some x) (hf : ∀ j, j < k → X[j]? ≠ some x) : X.idxOf x = k := by
  obtain ⟨h1, h2⟩ := List.getElem?_eq_some_iff.1 hk
  have hm : x ∈ X := h2 ▸ List.getElem_mem h1
  have hl := List.idxOf_lt_length_of_mem hm
  have hg : X[X.idxOf x]? = some x := by rw [List.getElem?_eq_getElem hl, List.getElem_idxOf hl]
  rcases Nat.lt_trichotomy (X.idxOf x) k with h | h | h
  · exact absurd hg (hf _ h)
  · exact h
  · have := List.not_of_lt_findIdx (p := (· == x)) (xs := X) (i := k) h
    simp [h2] at this
set_option maxHeartbeats 1000000 in
theorem index_any (w : World) (a : Option Addr) (c : Nat) (X : List Int) (x : Int) (h : IntsAt w a X) (hn : X.length ≤ 9223372036854775807) :
    Calls Tryd.prog 16 #[.slice a X.length c, .int .i64 x] w fun e w' => e = .returned (.int .i64 (place X x)) ∧ Below w.heap.size w w' := by
  have H := hid h
  obtain ⟨Y, hY⟩ : ∃ Y, Y = place X x := ⟨_, rfl⟩
  rw [← hY]
  have HY := hid hY
  clear h hY
  go_enter Tryd.func16, Tryd.ntmps16
  go_wp2_with fail
  go_loopw [8] (fun i wr => ∃ k : Nat, k ≤ X.length ∧ i = .int .i64 (k : Int) ∧ Hid (∀ j, j < k → X[j]? ≠ some x) ∧ Hid (Below w.heap.size w wr)) (fun i _ => X.length - (intOf i).toNat)
  case atStart => exact ⟨0, Nat.zero_le _, rfl, fun j hj => by omega, Below.refl _ _⟩
  case round =>
    obtain ⟨k, hk, rfl, hO, hb⟩ := hrel
    by_cases hlt : k < X.length
    · obtain ⟨y, hy⟩ : ∃ y, X[k]? = some y := ⟨_, List.getElem?_eq_getElem hlt⟩
      obtain ⟨b, o, rfl, d1⟩ := (H.out.below hb.out) k y hy
      have k0 : (0 : Int) ≤ (k : Int) := by omega
      have k1 : (k : Int) < (X.length : Int) := by omega
      by_cases e : y = x
      · subst e
        have HK : Hid (Y = (k : Int)) := by
          show _ = _
          rw [HY.out]
          unfold place
          rw [if_pos (List.mem_of_getElem? hy), idx_first hy hO.out]
        have j1 : (y == y) = true := by simp
        clear hy hO HY
        go_wp2_with fail
        go_ret
        exact ⟨by rw [HK.out]; rfl, hb.out⟩
      · have j1 : (x == y) = false := by simpa using Ne.symm e
        have j2 : (y == x) = false := by simpa using e
        have NO : Hid (∀ j, j < k + 1 → X[j]? ≠ some x) := fun j hj hx => by
          by_cases e2 : j = k
          · subst e2; rw [hy] at hx; exact e (Option.some.inj hx)
          · exact hO.out j (by omega) hx
        clear hy hO
        go_wp2_with fail
        go_roundw
        case rel => exact ⟨k + 1, by omega, by go_num, NO, hb⟩
        case measure => simp [intOf]; omega
    · obtain rfl : k = X.length := by omega
      have j3 : decide ((X.length : Int) < (X.length : Int)) = false := by simp
      have HK : Hid (Y = -1) := by
        show _ = _
        rw [HY.out]
        unfold place
        rw [if_neg]
        intro hm
        obtain ⟨j, hj, e⟩ := List.mem_iff_getElem.1 hm
        exact hO.out j hj (by rw [List.getElem?_eq_getElem hj, e])
      clear hO HY
      go_wp2_with fail
      go_ret
      exact ⟨by rw [HK.out]; rfl, hb.out⟩

theorem contains_any (w : World) (a : Option Addr) (c : Nat) (X : List Int) (x : Int) (h : IntsAt w a X) (hn : X.length ≤ 9223372036854775807) :
    Calls Tryd.prog 8 #[.slice a X.length c, .int .i64 x] w fun e w' => e = .returned (.bool (decide (x ∈ X))) ∧ Below w.heap.size w w' := by
  have HI := hid (index_any w a c X x h hn)
  obtain ⟨Y, hY⟩ : ∃ Y, Y = decide (x ∈ X) := ⟨_, rfl⟩
  rw [← hY]
  obtain ⟨p, hp⟩ : ∃ p, p = place X x := ⟨_, rfl⟩
  rw [← hp] at HI
  have hd : Hid (decide ((0 : Int) ≤ p) = Y) := by
    show _ = _
    rw [hY, hp]
    unfold place
    by_cases e : x ∈ X
    · rw [if_pos e]; simp [e]
    · rw [if_neg e]; simp [e]
  clear hY hp h
  go_enter Tryd.func8, Tryd.ntmps8
  go_wp2_with fail
  refine (HI.out).mono ?_
  rintro r w1 ⟨rfl, hb⟩
  have B := hid hb
  clear hb
  go_wp2_with fail
  go_ret
  exact ⟨by rw [← hd.out]; rfl, B.out⟩


theorem hasNat_any (w : World) (a : Option Addr) (c : Nat) (l : List Nat) (k : Nat) (h : NatsAt w a l) (hn : l.length ≤ 9223372036854775807) :
    Calls Tryd.prog 8 #[.slice a l.length c, .int .i64 (k : Int)] w fun e w' => e = .returned (.bool (l.contains k)) ∧ Below w.heap.size w w' := by
  have := contains_any w a c (ints l) (k : Int) (nats_ints h) (by rw [ints_len]; exact hn)
  rw [ints_len, show decide ((k : Int) ∈ ints l) = l.contains k from by rw [Bool.eq_iff_iff]; simp [ints_mem]] at this
  exact this
end Go.Proofs.YtbgcldckgiiedajDoor.PGraph
