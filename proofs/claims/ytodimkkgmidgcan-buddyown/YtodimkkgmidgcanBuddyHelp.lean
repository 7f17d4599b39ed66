/- Boxes of a call, and how many blocks there are in an answer. -/
import Derived.Test.YtodimkkgmidgcanBuddyFree
namespace Go.Proofs.Ytodimkkgmidgcan.PBuddy
open Go Go.RowKit PPool
set_option maxRecDepth 100000

theorem box1 {w : World} {x : Value} {T : TypeId} {w1 : World} (hb : Below (w.alloc (.cells #[x] T)).heap.size (w.alloc (.cells #[x] T)) w1) : w1.cell? ⟨w.heap.size, 0, none⟩ = some x := by
  have hg : w1.heap[w.heap.size]? = some (.cells #[x] T (0, 0)) := (hb.block _ (by simp)).trans (heap_alloc_new w _)
  rw [cell_of_row w1 _ _ _ _ _ hg]; rfl
theorem now2 (w : World) (x y : Value) (T : TypeId) : (w.alloc (.cells #[x, y] T)).cell? ⟨w.heap.size, 0, none⟩ = some x ∧ (w.alloc (.cells #[x, y] T)).cell? ⟨w.heap.size, 1, none⟩ = some y := box2 (Below.refl _ _)
theorem now1 (w : World) (x : Value) (T : TypeId) : (w.alloc (.cells #[x] T)).cell? ⟨w.heap.size, 0, none⟩ = some x := box1 (Below.refl _ _)
/-- Cells that are kept. -/
theorem keep2 {W W' : World} {q r : Addr} {u v : Value} (hb : Below W.heap.size W W') (h : W.cell? q = some u ∧ W.cell? r = some v) : W'.cell? q = some u ∧ W'.cell? r = some v := ⟨keep1 hb h.1, keep1 hb h.2⟩
theorem freeA_mem {N : Int} {X : List Bd.Bk} {x : Bd.Bk} (h : x ∈ Bd.freeA N X) : ∃ xa xo : Nat, x = Bd.bk xa xo ∧ xo ≤ 10 ∧ xa ≤ 1024 := by
  unfold Bd.freeA at h
  split at h
  · rename_i hc
    obtain ⟨n, rfl, hn, hk⟩ := Bd.check_ok hc
    rw [Int.toNat_natCast] at h
    obtain ⟨a, k, rfl, m⟩ := (Bd.free_mem hn hk).1 h
    have h1 := m.1.1
    have h2 := m.1.2.2.1
    have h3 := Bd.pow_le hn
    have h4 := Bd.pow_pos' k
    exact ⟨a, k, rfl, by omega, by omega⟩
  · simp at h
theorem freeA_len (N : Int) (X : List Bd.Bk) : (Bd.freeA N X).length ≤ 1024 := by
  unfold Bd.freeA
  split
  · rename_i hc
    obtain ⟨n, rfl, hn, hk⟩ := Bd.check_ok hc
    rw [Int.toNat_natCast]
    have h1 := Bd.free_len hn hk
    have h3 := Bd.pow_le hn
    omega
  · simp
theorem check_len {N : Int} {Y : List Bd.Bk} (h : Bd.check N Y = 0) : Y.length ≤ 1024 := by
  obtain ⟨n, rfl, hn, hk⟩ := Bd.check_ok h
  have h1 := Bd.chk_len hk
  have h3 := Bd.pow_le hn
  omega
theorem takeA_len (N : Int) (X : List Bd.Bk) (o : Int) : (Bd.takeA N X o).2.1.length ≤ 1024 := by
  obtain ⟨R, hR⟩ : ∃ R, R = Bd.takeA N X o := ⟨_, rfl⟩
  rw [← hR]
  obtain ⟨M, Y, z, C⟩ := R
  show Y.length ≤ 1024
  by_cases hC : C = 0
  · subst hC
    exact check_len (Bd.take_back hR.symm).2.2.1 (N := N)
  · rw [(Bd.take_none hR.symm hC).2.1]; simp

end Go.Proofs.Ytodimkkgmidgcan.PBuddy
