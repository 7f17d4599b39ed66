/- A log on a disk: readSectors, walked. -/
import Derived.Test.YthfpinjegfgeiaaWalReset
import Derived.Laws.MakeOwn
namespace Go.Proofs.Ythfpinjegfgeiaa
open Go Go.RowKit
set_option maxRecDepth 100000

def secs (D : SD) (a n : Nat) : List ByteArray := (D.seen.drop a).take n
theorem secs_len {D : SD} {a n : Nat} (h : a + n ≤ D.n) : (secs D a n).length = n := by
  unfold secs
  rw [List.length_take, List.length_drop]
  have : D.seen.length = D.n := rfl
  omega
theorem secs_at {D : SD} {a n k : Nat} (h : a + n ≤ D.n) (hk : k < n) : (secs D a n)[k]? = some (D.seen.getD (a + k) ⟨#[]⟩) := by
  have hl : D.seen.length = D.n := rfl
  unfold secs
  rw [List.getElem?_take, if_pos hk, List.getElem?_drop, List.getElem?_eq_getElem (by omega)]
  simp [List.getD, List.getElem?_eq_getElem (show a + k < D.seen.length by omega)]
theorem secs_64 {D : SD} (h : D.ok) (a n : Nat) : ∀ s ∈ secs D a n, s.size = 64 := fun s hs => h.seen64 s (List.mem_of_mem_drop (List.mem_of_mem_take hs))
def rowOf (l : List ByteArray) (n k : Nat) : List Value := (l.take k).map Value.string ++ List.replicate (n - k) (.string ⟨#[]⟩)
theorem rowOf_len {l : List ByteArray} {n k : Nat} (hl : l.length = n) (hk : k ≤ n) : (rowOf l n k).length = n := by
  unfold rowOf
  rw [List.length_append, List.length_map, List.length_take, List.length_replicate]
  omega
theorem rowOf_at {l : List ByteArray} {n k : Nat} (hl : l.length = n) (hk : k < n) : (rowOf l n k)[k]? = some (.string ⟨#[]⟩) := by
  unfold rowOf
  rw [List.getElem?_append_right (by rw [List.length_map, List.length_take]; omega), List.length_map, List.length_take, List.getElem?_replicate, if_pos (by omega)]
theorem rowOf_set {l : List ByteArray} {n k : Nat} (hl : l.length = n) (hk : k < n) (s : ByteArray) (hs : l[k]? = some s) : (rowOf l n k).set k (.string s) = rowOf l n (k + 1) := by
  have hk' : k < l.length := by omega
  unfold rowOf
  have e1 : ((l.take k).map Value.string).length = k := by rw [List.length_map, List.length_take]; omega
  have e2 : List.replicate (n - k) (Value.string ⟨#[]⟩) = .string ⟨#[]⟩ :: List.replicate (n - (k + 1)) (.string ⟨#[]⟩) := by
    rw [show n - k = (n - (k + 1)) + 1 by omega, List.replicate_succ]
  have e3 : l.take (k + 1) = l.take k ++ [s] := by
    rw [List.take_succ_eq_append_getElem hk']
    congr 2
    exact (List.getElem?_eq_some_iff.1 hs).2
  rw [e2, List.set_append_right _ _ (by omega), e1, Nat.sub_self, List.set_cons_zero, e3, List.map_append, List.append_assoc]
  rfl
theorem made_row (l : List ByteArray) (n : Nat) : madeCells #[Value.string ⟨#[]⟩] (n * 1) = (rowOf l n 0).toArray := by
  unfold rowOf
  apply Array.ext
  · simp [madeCells]
  · intro i h1 h2
    simp [madeCells, Nat.mod_one]
theorem read_in {D : SD} {a : Nat} (h : a < D.n) (hd : D.down = false) : D.read (a : Int) = (D.seen.getD a ⟨#[]⟩, 0) := by
  unfold SD.read
  rw [if_pos ⟨by omega, by omega⟩, hd, if_neg (by simp), Int.toNat_natCast]

theorem tx_row {w : World} {g : Nat} {l : List ByteArray} {n : Nat} (hl : l.length = n) (hn : n ≤ 256) (h : w.heap[g]? = some (.cells (rowOf l n n).toArray 9 (0, 0))) : TxAt w g 0 n l := by
  refine ⟨by omega, by unfold maxLen; omega, _, h, by rw [List.size_toArray, rowOf_len hl (Nat.le_refl _)]; omega, fun j t hj => ?_⟩
  have hj' : j < l.length := (List.getElem?_eq_some_iff.1 hj).1
  rw [Nat.zero_add, List.getElem?_toArray]
  unfold rowOf
  rw [List.take_of_length_le (by omega), List.getElem?_append_left (by rw [List.length_map]; exact hj'), List.getElem?_map, hj]
  rfl

set_option maxHeartbeats 2000000 in
theorem readSectors_any (w : World) (p : DP) (D : SD) (h : DiskAt w p D) (a n : Nat) (hfit : a + n ≤ D.n) (hd : D.down = false) :
    Calls Try.prog 59 #[.pointer (some ⟨p.b, 0, none⟩), .int .i64 (a : Int), .int .i64 (n : Int)] w fun e w' =>
      ∃ g, e = .returned (.tuple #[.slice (some ⟨g, 0, none⟩) n n, .int .i64 0]) ∧ TxAt w' g 0 n (secs D a n) ∧ w.heap.size ≤ g ∧ Below w.heap.size w w' := by
  have hsm := h.ok.small
  have hSl := secs_len hfit
  obtain ⟨i0, hi, hz0, hz1, hz2⟩ := info_parts tx_info
  have hmk : ∀ W, (Instr.makeSlice 54 (.int .i64 (n : Int)) (.int .i64 (n : Int))).run Try.prog W = .ok (.slice (some ⟨W.heap.size, 0, none⟩) n n) (W.alloc (.cells (rowOf (secs D a n) n 0).toArray 9)) := by
    intro W
    have := run_make (P := Try.prog) W 54 9 i0 (.string ⟨#[]⟩) Try.underlying54 hi hz0 .i64 .i64 n n (by omega) (by omega) (by rw [hz2]; omega) (by omega)
    rw [hz1] at this
    rw [← made_row]
    exact this
  have KR : Hid (∀ (W : World) (k : Nat), Below w.heap.size w W → k < n → Calls Try.prog 32 #[.pointer (some ⟨p.b, 0, none⟩), .int .i64 ((a : Int) + (k : Int))] W fun e w' => e = .returned (.tuple #[.string (D.seen.getD (a + k) ⟨#[]⟩), .int .i64 0]) ∧ w' = W) := fun W k hW hk => by
    have := read_any W p D (h.keep fun b hb => hW.block b (h.own_lt b hb)) ((a + k : Nat) : Int)
    rw [read_in (by omega) hd, show ((a + k : Nat) : Int) = (a : Int) + (k : Int) by omega] at this
    exact this
  have SA : Hid (∀ k, k < n → (secs D a n)[k]? = some (D.seen.getD (a + k) ⟨#[]⟩)) := fun k hk => secs_at hfit hk
  have hn1 : (n : Int) ≤ 256 := by omega
  have ha1 : (a : Int) ≤ 256 := by omega
  clear h hi hz0 hz1 hz2
  generalize secs D a n = l at *
  go_enter Try.func59, Try.ntmps59
  go_wp2_with fail
  go_loopw [16] (fun i wr => ∃ k : Nat, k ≤ n ∧ i = .int .i64 (k : Int) ∧ Hid (wr.heap[w.heap.size]? = some (.cells (rowOf l n k).toArray 9 (0, 0)) ∧ Below w.heap.size w wr)) (fun i _ => n - (intOf i).toNat)
  case atStart => exact ⟨0, Nat.zero_le _, rfl, heap_alloc_new w _, (Below.refl _ w).alloc (Nat.le_refl _) _⟩
  case round =>
    obtain ⟨k, hk, rfl, hr⟩ := hrel
    by_cases hlt : k < n
    · have hK := hid (KR.out wr k hr.out.2 hlt)
      have hs := SA.out k hlt
      generalize D.seen.getD (a + k) ⟨#[]⟩ = s at *
      have hcell : wr.cell? ⟨w.heap.size, k, none⟩ = some (.string ⟨#[]⟩) := by rw [cell_of_row wr _ _ _ _ _ hr.out.1, List.getElem?_toArray]; exact rowOf_at hSl hlt
      have hfz : wr.frozen? ⟨w.heap.size, k, none⟩ = false := by have := hr.out.1; simp [World.frozen?, this]
      have NX : Hid ((wr.setCell ⟨w.heap.size, k, none⟩ (.string s)).heap[w.heap.size]? = some (.cells (rowOf l n (k + 1)).toArray 9 (0, 0)) ∧ Below w.heap.size w (wr.setCell ⟨w.heap.size, k, none⟩ (.string s))) := by
        refine ⟨?_, hr.out.2.setCell (p := ⟨w.heap.size, k, none⟩) (Nat.le_refl _) _⟩
        rw [setCell_eq_setRow wr w.heap.size k _ _ _ _ hr.out.1, setRow_heap wr _ _ _ _ _ hr.out.1, List.setIfInBounds_toArray, rowOf_set hSl hlt s hs]
      have k0 : (0 : Int) ≤ (k : Int) := by omega
      have k1 : (k : Int) < (n : Int) := by omega
      clear hs hr
      go_wp2_with fail
      refine hK.out.mono ?_
      rintro r w3 ⟨rfl, rfl⟩
      go_wp2_with fail
      go_roundw
      case rel => exact ⟨k + 1, by omega, by go_num, NX⟩
      case measure => simp [intOf]; omega
    · obtain rfl : k = n := by omega
      have j1 : decide ((k : Int) < (k : Int)) = false := by simp
      go_wp2_with fail
      go_ret2
      exact ⟨w.heap.size, rfl, tx_row hSl (by omega) hr.out.1, Nat.le_refl _, hr.out.2⟩

set_option maxHeartbeats 2000000 in
theorem readSectors_down (w : World) (p : DP) (D : SD) (h : DiskAt w p D) (a n : Nat) (hn : 1 ≤ n) (hfit : a + n ≤ D.n) (hd : D.down = true) :
    Calls Try.prog 59 #[.pointer (some ⟨p.b, 0, none⟩), .int .i64 (a : Int), .int .i64 (n : Int)] w fun e w' =>
      e = .returned (.tuple #[.slice none 0 0, .int .i64 13]) ∧ Below w.heap.size w w' := by
  have hsm := h.ok.small
  obtain ⟨i0, hi, hz0, hz1, hz2⟩ := info_parts tx_info
  have hmk : ∀ W, (Instr.makeSlice 54 (.int .i64 (n : Int)) (.int .i64 (n : Int))).run Try.prog W = .ok (.slice (some ⟨W.heap.size, 0, none⟩) n n) (W.alloc (.cells (rowOf [] n 0).toArray 9)) := by
    intro W
    have := run_make (P := Try.prog) W 54 9 i0 (.string ⟨#[]⟩) Try.underlying54 hi hz0 .i64 .i64 n n (by omega) (by omega) (by rw [hz2]; omega) (by omega)
    rw [hz1] at this
    rw [← made_row]
    exact this
  have KR : Hid (∀ (W : World), Below w.heap.size w W → Calls Try.prog 32 #[.pointer (some ⟨p.b, 0, none⟩), .int .i64 (a : Int)] W fun e w' => e = .returned (.tuple #[.string ⟨#[]⟩, .int .i64 13]) ∧ w' = W) := fun W hW => by
    have := read_any W p D (h.keep fun b hb => hW.block b (h.own_lt b hb)) (a : Int)
    rw [SD.read, if_pos ⟨by omega, by omega⟩, if_pos hd] at this
    exact this
  have hn1 : (n : Int) ≤ 256 := by omega
  have ha1 : (a : Int) ≤ 256 := by omega
  have hn0 : (0 : Int) < (n : Int) := by omega
  clear h hi hz0 hz1 hz2
  go_enter Try.func59, Try.ntmps59
  go_wp2_with fail
  go_loopw [16] (fun i wr => i = .int .i64 0 ∧ Hid (Below w.heap.size w wr)) (fun _ _ => 0)
  case atStart => exact ⟨rfl, (Below.refl _ w).alloc (Nat.le_refl _) _⟩
  case round =>
    obtain ⟨rfl, hr⟩ := hrel
    have hK := hid (KR.out wr hr.out)
    go_wp2_with fail
    refine hK.out.mono ?_
    rintro r w3 ⟨rfl, rfl⟩
    go_wp2_with fail
    go_ret2
    exact ⟨rfl, hr.out⟩

end Go.Proofs.Ythfpinjegfgeiaa
