/- Boxes of a call, and how many blocks there are in an answer. -/
import Derived.Test.YtodimkkgmidgcabBuddyFree
namespace Go.Proofs.Ytodimkkgmidgcab.PBuddy
open Go Go.RowKit PPool
set_option maxRecDepth 100000

theorem box1 {w : World} {x : Value} {T : TypeId} {w1 : World} (hb : Below (w.alloc (.cells #[x] T)).heap.size (w.alloc (.cells #[x] T)) w1) : w1.cell? ⟨w.heap.size, 0, none⟩ = some x := by
  have hg : w1.heap[w.heap.size]? = some (.cells #[x] T (0, 0)) := (hb.block _ (by simp)).trans (heap_alloc_new w _)
  rw [cell_of_row w1 _ _ _ _ _ hg]; rfl
theorem now2 (w : World) (x y : Value) (T : TypeId) : (w.alloc (.cells #[x, y] T)).cell? ⟨w.heap.size, 0, none⟩ = some x ∧ (w.alloc (.cells #[x, y] T)).cell? ⟨w.heap.size, 1, none⟩ = some y := box2 (Below.refl _ _)
theorem now1 (w : World) (x : Value) (T : TypeId) : (w.alloc (.cells #[x] T)).cell? ⟨w.heap.size, 0, none⟩ = some x := box1 (Below.refl _ _)
/-- Cells that are kept. -/
theorem keep2 {W W' : World} {q r : Addr} {u v : Value} (hb : Below W.heap.size W W') (h : W.cell? q = some u ∧ W.cell? r = some v) : W'.cell? q = some u ∧ W'.cell? r = some v := ⟨keep1 hb h.1, keep1 hb h.2⟩
theorem freeA_mem {N : Int} {X : List Bd.Bk} {x : Bd.Bk} (h : x ∈ Bd.freeA N X) : ∃ xa xo : Nat, x = Bd.bk xa xo ∧ xo ≤ 10 ∧ xa ≤ 1024 := by
  unfold Bd.freeA at h
  split at h
  · rename_i hc
    obtain ⟨n, rfl, hn, hk⟩ := Bd.check_ok hc
    rw [Int.toNat_natCast] at h
    obtain ⟨a, k, rfl, m⟩ := (Bd.free_mem hn hk).1 h
    have h1 := m.1.1
    have h2 := m.1.2.2.1
    have h3 := Bd.pow_le hn
    have h4 := Bd.pow_pos' k
    exact ⟨a, k, rfl, by omega, by omega⟩
  · simp at h
theorem freeA_len (N : Int) (X : List Bd.Bk) : (Bd.freeA N X).length ≤ 1024 := by
  unfold Bd.freeA
  split
  · rename_i hc
    obtain ⟨n, rfl, hn, hk⟩ := Bd.check_ok hc
    rw [Int.toNat_natCast]
    have h1 := Bd.free_len hn hk
    have h3 := Bd.pow_le hn
    omega
  · simp
theorem check_len {N : Int} {Y : List Bd.Bk} (h : Bd.check N Y = 0) : Y.length ≤ 1024 := by
  obtain ⟨n, rfl, hn, hk⟩ := Bd.check_ok h
  have h1 := Bd.chk_len hk
  have h3 := Bd.pow_le hn
  omega
theorem takeA_len (N : Int) (X : List Bd.Bk) (o : Int) : (Bd.takeA N X o).2.1.length ≤ 1024 := by
  obtain ⟨R, hR⟩ : ∃ R, R = Bd.takeA N X o := ⟨_, rfl⟩
  rw [← hR]
  obtain ⟨M, Y, z, C⟩ := R
  show Y.length ≤ 1024
  by_cases hC : C = 0
  · subst hC
    exact check_len (Bd.take_back hR.symm).2.2.1 (N := N)
  · rw [(Bd.take_none hR.symm hC).2.1]; simp

theorem own_nil {w : World} {base : Nat} {a : Option Addr} {n c : Nat} {X : List Bd.Bk} (h : OwnPg w base (.slice a n c) X) : a = none → c = 0 := fun e => by
  subst e
  rcases h.2 with ⟨e, _⟩ | ⟨g, cap, cur, hv, _⟩
  · injection e
  · injection hv with e1 _ _; cases e1
/-- What is kept where one block turns. -/
theorem PgAt.goes {g : Nat} {w w' : World} {a : Option Addr} {X : List Bd.Bk} (h : PgAt w a X) (hg : Goes (fun b => b = g) w w' (fun b => b = g)) (ha : ∀ q, a = some q → q.block ≠ g) : PgAt w' a X := fun j x hj => by
  obtain ⟨b, o, e, h1, h2⟩ := h j x hj
  have hb := hg.block b (World.block_lt_of_cell? w _ h1) (ha _ e)
  exact ⟨b, o, e, (World.cell?_of_block (a := ⟨b, o + j * 2, none⟩) hb).trans h1, (World.cell?_of_block (a := ⟨b, o + j * 2 + 1, none⟩) hb).trans h2⟩
theorem cell_goes {g : Nat} {w w' : World} {q : Addr} {v : Value} (h : w.cell? q = some v) (hg : Goes (fun b => b = g) w w' (fun b => b = g)) (ha : q.block ≠ g) : w'.cell? q = some v :=
  (World.cell?_of_block (a := q) (hg.block q.block (World.block_lt_of_cell? w _ h) ha)).trans h

theorem inner_lt {xa p q m : Nat} (g3 : xa + p ≤ q) (hm : m < p) : xa + m < q := by omega
theorem inner_num {xa p q m v : Nat} (g3 : xa + p ≤ q) (q3 : q ≤ 1024) (hm : m < p) (hv : v ≤ 2048) :
    (0 : Int) ≤ (xa : Int) + (m : Int) ∧ (xa : Int) + (m : Int) < (q : Int) ∧ ((xa : Int) + (m : Int)).toNat = xa + m ∧ IntKind.i64.wrap ((xa : Int) + (m : Int)) = (xa : Int) + (m : Int) ∧ IntKind.i64.wrap ((v : Int) + 1) = (v : Int) + 1 ∧ (m : Int) < (p : Int) := by
  refine ⟨by omega, by omega, by omega, IntWalk.i64_in _ ⟨by omega, by omega⟩, IntWalk.i64_in _ ⟨by omega, by omega⟩, by omega⟩
theorem inner_meas {m p : Nat} (h : m < p) : p - (intOf (.int .i64 ((m : Int) + 1))).toNat < p - (intOf (.int .i64 (m : Int))).toNat := by simp [intOf]; omega

end Go.Proofs.Ytodimkkgmidgcab.PBuddy
