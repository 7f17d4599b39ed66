/- slices.Max at numbers, walked: the greatest of a row that is not empty. Conditions: how long it is. -/
import Derived.Test.YtbgcldckgiiedacDoorWaitNum
import Derived.Test.YtbgcldckgiiedacDoorGraphEq
namespace Go.Proofs.YtbgcldckgiiedacDoor.PWait
open Go Go.RowKit PPool PGraph
set_option maxRecDepth 100000

theorem maxN_take {l : List Nat} {k x : Nat} (h : l[k]? = some x) : Wa.maxN (l.take (k + 1)) = max (Wa.maxN (l.take k)) x := by
  obtain ⟨h1, h2⟩ := List.getElem?_eq_some_iff.1 h
  rw [List.take_succ_eq_append_getElem h1, h2, Wa.maxN_snoc]

set_option maxHeartbeats 1000000 in
theorem max_any (w : World) (a : Option Addr) (c : Nat) (l : List Nat) (h : NatsAt w a l) (hl : l.length ≤ 100000) (hne : l ≠ []) :
    Calls Tryd.prog 23 #[.slice a l.length c] w fun e w' => e = .returned (.int .i64 (Wa.maxN l : Int)) ∧ Below w.heap.size w w' := by
  have H := hid h
  have hp : 0 < l.length := List.length_pos_iff.2 hne
  obtain ⟨x0, hx0⟩ : ∃ x, l[0]? = some x := ⟨_, List.getElem?_eq_getElem hp⟩
  obtain ⟨b, o, rfl, d0'⟩ := h 0 x0 hx0
  have d0 : w.cell? ⟨b, o, none⟩ = some (.int .i64 (x0 : Int)) := d0'
  have hm0 : Hid (x0 = Wa.maxN (l.take 1)) := by
    show _ = _
    have := maxN_take hx0
    rw [this]; simp [Wa.maxN]
  obtain ⟨N, hN⟩ : ∃ N, N = l.length := ⟨_, rfl⟩
  have HN := hid hN
  rw [← hN] at hl hp ⊢
  have j1 : decide ((N : Int) < 1) = false := by simp; omega
  have j2 : (0 : Int) < (N : Int) := by omega
  have j3 : decide (N < 1) = false := by simp; omega
  clear h hne hx0 hN d0'
  go_enter Tryd.func23, Tryd.ntmps23
  go_wp2_with fail
  go_loopw [3, 4] (fun m i wr => ∃ k g : Nat, 1 ≤ k ∧ k ≤ N ∧ i = .int .i64 (k : Int) ∧ m = .int .i64 (g : Int) ∧ Hid (g = Wa.maxN (l.take k)) ∧ Hid (Below w.heap.size w wr)) (fun _ i _ => N - (intOf i).toNat)
  case atStart => exact ⟨1, x0, by omega, by omega, rfl, rfl, hm0, Below.refl _ _⟩
  case round =>
    clear d0 hm0
    obtain ⟨k, g, hk1, hk, rfl, rfl, hg, hb⟩ := hrel
    by_cases hlt : k < N
    · obtain ⟨x, hx⟩ : ∃ x, l[k]? = some x := ⟨_, List.getElem?_eq_getElem (by have := HN.out; omega)⟩
      obtain ⟨b', o', e, d1⟩ := (H.out.below hb.out) k x hx
      injection e with e
      injection e with e1 e2 _
      subst e1; subst e2
      have k0 : (0 : Int) ≤ (k : Int) := by omega
      have k1 : (k : Int) < (N : Int) := by omega
      have G2 : Hid (max g x = Wa.maxN (l.take (k + 1))) := by show _ = _; rw [maxN_take hx, hg.out]
      clear hx hg
      go_wp2_with fail
      have e3 : Value.int IntKind.i64 (if g < x then (x : Int) else (g : Int)) = .int .i64 ((max g x : Nat) : Int) := by
        congr 1
        split <;> omega
      go_roundw
      case rel => exact ⟨k + 1, max g x, by omega, by omega, by go_num, e3, G2, hb⟩
      case measure => simp [intOf]; omega
    · obtain rfl : k = N := by omega
      have j4 : decide ((k : Int) < (k : Int)) = false := by simp
      have e : Hid (g = Wa.maxN l) := by show _ = _; rw [hg.out, HN.out, List.take_length]
      clear hg
      go_wp2_with fail
      go_ret
      exact ⟨by rw [← e.out]; rfl, hb.out⟩
end Go.Proofs.YtbgcldckgiiedacDoor.PWait
