/- quirkeep.spoil at locks, walked: whatever it lays over a row, no other block turns. Condition: how long the row is. -/
import Derived.Test.YtjoaedkgjnchoanLockLib
import Derived.Maps.AppendAt
namespace Go.Proofs.Ytjoaedkgjnchoan.PLock
open Go Go.RowKit PPool
set_option maxRecDepth 100000

/-- A lock of cells of locks, n of them, that may be written. -/
def Blk (w : World) (g n : Nat) : Prop := ∃ cur : Array Value, w.heap[g]? = some (.cells cur 62 (0, 0)) ∧ cur.size = n * 2
theorem Blk.of {w : World} {base g n c : Nat} {X : List Lk.Lo} (h : OwnLk w base (.slice (some ⟨g, 0, none⟩) n c) X) : Blk w g c := by
  rcases h.2 with ⟨e, _⟩ | ⟨g', cap, cur, hv, hg, hh, h1, h2, h3, h4⟩
  · cases e
  · injection hv with e1 e2 e3
    have eg : g = g' := by injection e1 with e1; injection e1
    subst eg; subst e3
    exact ⟨cur, hh, h3⟩
theorem Blk.cells {w : World} {g n : Nat} (h : Blk w g n) {k : Nat} (hk : k < n) : (∃ v, w.cell? ⟨g, k * 2, none⟩ = some v) ∧ (∃ v, w.cell? ⟨g, k * 2 + 1, none⟩ = some v) ∧ w.frozen? ⟨g, k * 2, none⟩ = false ∧ w.frozen? ⟨g, k * 2 + 1, none⟩ = false := by
  obtain ⟨cur, hh, hs⟩ := h
  refine ⟨⟨cur[k * 2], ?_⟩, ⟨cur[k * 2 + 1], ?_⟩, by simp [World.frozen?, hh], by simp [World.frozen?, hh]⟩
  · rw [cell_of_row w g _ cur _ _ hh]; exact Array.getElem?_eq_getElem (by omega)
  · rw [cell_of_row w g _ cur _ _ hh]; exact Array.getElem?_eq_getElem (by omega)
theorem Blk.set1 {w : World} {g n : Nat} (h : Blk w g n) (i : Nat) (v : Value) : Blk (w.setCell ⟨g, i, none⟩ v) g n := by
  obtain ⟨cur, hh, hs⟩ := h
  refine ⟨cur.setIfInBounds i v, ?_, by simpa using hs⟩
  rw [setCell_eq_setRow w g i cur _ _ v hh]
  exact setRow_heap w g _ _ _ _ hh
theorem grown_set (w : World) (a : Addr) (v : Value) : w.grownBy (w.setCell a v) (some a.block) :=
  ⟨rfl, rfl, rfl, by simp, fun k _ hk => Below.heap_setCell w a v k (fun e => hk (by rw [e]))⟩
theorem grown_two {w w1 : World} {g : Nat} (h : w.grownBy w1 (some g)) (i j : Nat) (u v : Value) : w.grownBy ((w1.setCell ⟨g, i, none⟩ u).setCell ⟨g, j, none⟩ v) (some g) :=
  (h.trans (grown_set w1 ⟨g, i, none⟩ u)).trans (grown_set _ ⟨g, j, none⟩ v)
theorem grown_alloc (w : World) (o : Obj) (row : Option Nat) : w.grownBy (w.alloc o) row := World.grownBy_alloc w o row

set_option maxHeartbeats 2000000 in
theorem spoil_any (w : World) (g n cp : Nat) (u t : Int) (h : Blk w g cp) (hg : g < w.heap.size) (hn : n ≤ cp) (hc : cp ≤ maxLen) :
    Calls Try.prog 28 #[.slice (some ⟨g, 0, none⟩) n cp, .agg #[.int .i64 u, .int .i64 t]] w fun e w' => e = .returned (.tuple #[]) ∧ w.grownBy w' (some g) ∧ Blk w' g cp := by
  have hc' : (cp : Int) ≤ 9223372036854775807 := by unfold maxLen at hc; omega
  have hc0 : (0 : Int) ≤ (cp : Int) := by omega
  have H := hid h
  clear h hc
  go_enter Try.func28, Try.ntmps28
  go_wp2_with fail
  have hwb : (w.alloc (.cells #[.int .i64 u, .int .i64 t] 62)).heap.size = w.heap.size + 1 := by simp
  have BX := hid fun W1 (hb : (w.alloc (.cells #[.int .i64 u, .int .i64 t] 62)).grownBy W1 (some g)) => (by
    have e : W1.heap[w.heap.size]? = some (.cells #[.int .i64 u, .int .i64 t] 62 (0, 0)) := (hb.block w.heap.size (by omega) (by intro e; injection e with e; omega)).trans (heap_alloc_new w _)
    exact ⟨by rw [cell_of_row W1 _ _ _ _ _ e]; rfl, by rw [cell_of_row W1 _ _ _ _ _ e]; rfl⟩ : W1.cell? ⟨w.heap.size, 0, none⟩ = some (.int .i64 u) ∧ W1.cell? ⟨w.heap.size, 1, none⟩ = some (.int .i64 t))
  have HB : Hid (Blk (w.alloc (.cells #[.int .i64 u, .int .i64 t] 62)) g cp) := by
    obtain ⟨cur, hh, hs⟩ := H.out
    exact ⟨cur, (Below.heap_alloc w _ g hg).trans hh, hs⟩
  have G0 : Hid (w.grownBy (w.alloc (.cells #[.int .i64 u, .int .i64 t] 62)) (some g)) := grown_alloc _ _ _
  generalize w.alloc (.cells #[.int .i64 u, .int .i64 t] 62) = wb at *
  have HW := hid hwb
  clear hwb
  go_loopw [11] (fun i wr => ∃ k : Nat, k ≤ cp ∧ i = .int .i64 (k : Int) ∧ Hid (Blk wr g cp) ∧ Hid (wb.grownBy wr (some g))) (fun i _ => cp - (intOf i).toNat)
  case atStart => exact ⟨0, Nat.zero_le _, rfl, HB, hid ⟨rfl, rfl, rfl, Nat.le_refl _, fun _ _ _ => rfl⟩⟩
  case round =>
    obtain ⟨k, hk, rfl, hB, hG⟩ := hrel
    by_cases hlt : k < cp
    · obtain ⟨⟨v1, m1⟩, ⟨v2, m2⟩, m3, m4⟩ := hB.out.cells hlt
      obtain ⟨m5, m6⟩ := BX.out _ hG.out
      have k0 : (0 : Int) ≤ (k : Int) := by omega
      have k1 : (k : Int) < (cp : Int) := by omega
      go_wp2_with fail
      go_roundw
      case rel => exact ⟨k + 1, by omega, by go_num, hid ((hB.out.set1 _ _).set1 _ _), hid (grown_two hG.out _ _ _ _)⟩
      case measure => simp [intOf]; omega
    · obtain rfl : k = cp := by omega
      have j1 : decide ((k : Int) < (k : Int)) = false := by simp
      go_wp2_with fail
      go_end0
      exact ⟨rfl, G0.out.trans hG.out, hB.out⟩

end Go.Proofs.Ytjoaedkgjnchoan.PLock
