/- leaf.getSlot, walked: it answers what the plain function reads, and nothing that was there has turned. Condition: the text's length. -/
import Derived.Test.YtiaddijibaclkaaLeafText
import Derived.Test.YtiaddijibaclkaaGet
namespace Go.Proofs.Ytiaddijibaclkaa.PLeaf
open Go Go.RowKit
set_option maxRecDepth 100000

theorem getNat_at (s : ByteArray) (w : World) (x t e : Nat) (hs : s.size ≤ maxLen) (hG : PCode.Nb.getN 0 0 s.data.toList = (x, t, e)) :
    Calls Try.prog 8 #[.string s] w fun r w' => r = .returned (.tuple #[.int .u64 (x : Int), .int .i64 (t : Int), .int .i64 (e : Int)]) ∧ w' = w := by
  have h := PCode.getNat_any s w hs
  rw [hG] at h
  exact h

def slotV : Option (Lf.Sl × Nat) → Value
  | none => .tuple #[.agg #[.bool false, .string ⟨#[]⟩], .int .i64 0, .bool false]
  | some (x, t) => .tuple #[.agg #[.bool x.used, .string x.text], .int .i64 (t : Int), .bool true]

theorem slot_result {W : World} {b : Nat} {u v : Value} (h : W.cell? ⟨b, 0, none⟩ = some u ∧ W.cell? ⟨b, 1, none⟩ = some v) (tmps : Array Value) (h2 : tmps.getD 2 undef = .pointer (some ⟨b, 0, none⟩)) :
    (results Try.f95 tmps).run Try.prog W = .ok (.tuple #[.agg #[u, v], tmps.getD 3 undef, tmps.getD 4 undef]) W := by
  have h5 : tmps[2]?.getD undef = .pointer (some ⟨b, 0, none⟩) := by simpa using h2
  simp [results, Try.results95, go_sem, h5, h.1, h.2]
theorem res2 {W : World} {b : Nat} {x y : Value} {T : TypeId} (h : W.heap[b]? = some (.cells #[x, y] T (0, 0))) (u v : Value) :
    ((W.setCell ⟨b, 0, none⟩ u).setCell ⟨b, 1, none⟩ v).cell? ⟨b, 0, none⟩ = some u ∧ ((W.setCell ⟨b, 0, none⟩ u).setCell ⟨b, 1, none⟩ v).cell? ⟨b, 1, none⟩ = some v := by
  have h1 : (W.setCell ⟨b, 0, none⟩ u).heap[b]? = some (.cells #[u, y] T (0, 0)) := by
    rw [setCell_eq_setRow W b 0 _ T _ u h]
    exact setRow_heap W b _ _ T _ h
  have h2 : ((W.setCell ⟨b, 0, none⟩ u).setCell ⟨b, 1, none⟩ v).heap[b]? = some (.cells #[u, v] T (0, 0)) := by
    rw [setCell_eq_setRow _ b 1 _ T _ v h1]
    exact setRow_heap _ b _ _ T _ h1
  exact ⟨by rw [cell_of_row _ _ _ _ _ _ h2]; rfl, by rw [cell_of_row _ _ _ _ _ _ h2]; rfl⟩
theorem blk2 {w : World} {x y : Value} {T : TypeId} {w1 : World} (hb : Below (w.alloc (.cells #[x, y] T)).heap.size (w.alloc (.cells #[x, y] T)) w1) :
    w1.heap[w.heap.size]? = some (.cells #[x, y] T (0, 0)) := (hb.block _ (by simp)).trans (heap_alloc_new w _)
theorem fz_of {w : World} {b : Nat} {cs : Array Value} {T : TypeId} (h : w.heap[b]? = some (.cells cs T (0, 0))) (i : Nat) : w.frozen? ⟨b, i, none⟩ = false := by simp [World.frozen?, h]
theorem Below.two' {w w' : World} (h : Below w.heap.size w w') (i j : Nat) (u v : Value) : Below w.heap.size w ((w'.setCell ⟨w.heap.size, i, none⟩ u).setCell ⟨w.heap.size, j, none⟩ v) :=
  (h.setCell (p := ⟨w.heap.size, i, none⟩) (Nat.le_refl _) _).setCell (p := ⟨w.heap.size, j, none⟩) (Nat.le_refl _) _

theorem cut_list (s : ByteArray) (a b : Nat) : (s.extract a b).data.toList = (s.data.toList.drop a).take (b - a) := Lib.extract_data s a b

set_option maxHeartbeats 2000000 in
theorem getSlot_any (s : ByteArray) (w : World) (hs : s.size ≤ 140737488355328) :
    Calls Try.prog 95 #[.string s] w fun e w' => e = .returned (slotV (Lf.getS s.data.toList)) ∧ Below w.heap.size w w' := by
  have hb := PCode.Nb.get_bound s.data.toList 0 0 (by omega) (by omega)
  have HI := Lf.getS.eq_1 s.data.toList
  obtain ⟨x, t, e, hG⟩ : ∃ x t e, PCode.Nb.getN 0 0 s.data.toList = (x, t, e) := ⟨_, _, _, rfl⟩
  have HC : Hid (∀ W, Calls Try.prog 8 #[.string s] W fun r w' => r = .returned (.tuple #[.int .u64 (x : Int), .int .i64 (t : Int), .int .i64 (e : Int)]) ∧ w' = W) := fun W => getNat_at s W x t e (by unfold maxLen; omega) hG
  rw [hG] at hb HI
  simp only at hb HI
  rw [Lf.size_list] at hb HI
  obtain ⟨hb1, hb2, hb3, hb4⟩ := hb
  have ht : (t : Int) ≤ (s.size : Int) := by omega
  have hs' : (s.size : Int) ≤ 140737488355328 := by omega
  clear hG
  by_cases he : e = 0
  · subst he
    simp only [if_true] at HI
    by_cases hx : x = 0
    · subst hx
      simp only [if_true] at HI
      generalize Lf.getS s.data.toList = I at *
      have HI' := hid HI
      have hz : (((0 : Nat) : Int) == 0) = true := rfl
      clear HI
      go_enter Try.func95, Try.ntmps95
      go_wp2_with fail
      refine (HC.out _).mono ?_
      rintro r w1 ⟨rfl, rfl⟩
      go_wp2_with fail
      refine bodyPost_ret (slot_result (box2 (Below.refl _ _)) _ rfl) rfl ?_
      exact ⟨by rw [HI'.out]; rfl, bx _ _⟩
    · rw [if_neg hx] at HI
      obtain ⟨y, rfl⟩ : ∃ y, x = y + 1 := ⟨x - 1, by omega⟩
      rw [Nat.add_sub_cancel] at HI
      have hz : (((y + 1 : Nat) : Int) == 0) = false := by simp; omega
      have hy : (y : Int) ≤ 18446744073709551614 := by omega
      by_cases hlt : s.size - t < y
      · rw [if_pos hlt] at HI
        generalize Lf.getS s.data.toList = I at *
        have HI' := hid HI
        have hq : (s.size : Int) - (t : Int) < (y : Int) := by omega
        clear HI
        go_enter Try.func95, Try.ntmps95
        go_wp2_with fail
        refine (HC.out _).mono ?_
        rintro r w1 ⟨rfl, rfl⟩
        go_wp2_with fail
        refine bodyPost_ret (slot_result (box2 (Below.refl _ _)) _ rfl) rfl ?_
        exact ⟨by rw [HI'.out]; rfl, bx _ _⟩
      · rw [if_neg hlt] at HI
        have hsl : ∀ W : World, (Instr.slice 9 (.string s) (some (.int .i64 (t : Int))) (some (.int .i64 ((t : Int) + (y : Int)))) none).run Try.prog W = .ok (.string (s.extract t (t + y))) W := fun W => by
          have h := run_slice_string (P := Try.prog) W 9 s .i64 .i64 (t : Int) ((t : Int) + (y : Int)) Try.underlying9 (by omega) (by omega) (by omega)
          rw [show ((t : Int)).toNat = t from by omega, show ((t : Int) + (y : Int)).toNat = t + y from by omega] at h
          exact h
        have hsz : (s.extract t (t + y)).size ≤ 140737488355328 := by rw [ByteArray.size_extract]; omega
        have KC := hid fun W => clone_any (s.extract t (t + y)) W hsz
        have eQ : (⟨((s.data.toList.drop t).take y).toArray⟩ : ByteArray) = s.extract t (t + y) := Lf.bytes_eq (by rw [cut_list, Nat.add_sub_cancel_left])
        rw [eQ] at HI
        generalize Lf.getS s.data.toList = I at *
        have HI' := hid HI
        have hq : ¬ (s.size : Int) - (t : Int) < (y : Int) := by omega
        have hq2 : (y : Int) ≤ 140737488355328 := by omega
        clear HI eQ hsz
        generalize s.extract t (t + y) = Q at *
        go_enter Try.func95, Try.ntmps95
        go_wp2_with fail
        refine (HC.out _).mono ?_
        rintro r w1 ⟨rfl, rfl⟩
        go_wp2_with fail
        refine (KC.out _).mono ?_
        rintro r w2 ⟨rfl, hb⟩
        have BK := hid (blk2 hb)
        have B2 := hid (below_tr (bx _ _) hb)
        obtain ⟨m0, m1⟩ := box2 hb
        have f0 := fz_of BK.out 0
        have f1 := fz_of BK.out 1
        clear hb
        go_wp2_with fail
        refine bodyPost_ret (slot_result (res2 BK.out _ _) _ rfl) rfl ?_
        exact ⟨by rw [HI'.out]; rfl, Below.two' B2.out _ _ _ _⟩
  · rw [if_neg he] at HI
    generalize Lf.getS s.data.toList = I at *
    have HI' := hid HI
    have he' : ((e : Int) != 0) = true := by simp; omega
    clear HI
    go_enter Try.func95, Try.ntmps95
    go_wp2_with fail
    refine (HC.out _).mono ?_
    rintro r w1 ⟨rfl, rfl⟩
    go_wp2_with fail
    refine bodyPost_ret (slot_result (box2 (Below.refl _ _)) _ rfl) rfl ?_
    exact ⟨by rw [HI'.out]; rfl, bx _ _⟩

end Go.Proofs.Ytiaddijibaclkaa.PLeaf
