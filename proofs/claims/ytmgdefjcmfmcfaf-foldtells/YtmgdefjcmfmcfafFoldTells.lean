/-
  quirkeep.FoldTells: for every text of at most 2^47 - 4096 bytes, all two ints and all two bytes the call returns true, and what was handed in reads as before. Condition: the text's length (the row's own reach gives it).
-/
import Derived.Test.YtmgdefjcmfmcfafFoldGet
import Derived.Laws.IdiomStrings
import Derived.OpenShut
namespace Go.Proofs.Ytmgdefjcmfmcfaf
open Go.RowKit

/- the bytes l lie in block b, from its beginning, and may be written -/
structure Lies (w : World) (b : Nat) (l : List UInt8) : Prop where
  at_ : ∀ j (hj : j < l.length), w.cell? ⟨b, j, none⟩ = some (.int .u8 (l[j].toNat : Int))
  free : ∀ j, j < l.length → w.frozen? ⟨b, j, none⟩ = false
  there : b < w.heap.size

theorem Lies.made (w : World) (s : ByteArray) (cap : Nat) (h : s.size ≤ cap) :
    Lies (w.drew.alloc (.cells (bytesRow s cap) 5 ((bytesRow s cap).size, (bytesRow s cap).size + 1))) w.heap.size s.data.toList := by
  have e : w.heap.size = w.drew.heap.size := rfl
  have hsz : (bytesRow s cap).size = cap := by unfold bytesRow; simp; have : s.data.size = s.size := rfl; omega
  refine ⟨fun j hj => ?_, fun j hj => ?_, by simp⟩
  · rw [e, World.cell?_alloc_mark, bytesRow_at s cap j (by simpa using hj)]; simp
  · rw [e, World.frozen?_alloc_mark, hsz]
    rw [list_len] at hj
    rw [show decide (cap ≤ j) = false from by simp; omega]; rfl

theorem Lies.made' (w : World) (s : ByteArray) :
    Lies (w.alloc (.cells (bytesRow s (grownCap w s.size 0 5)) 5 ((bytesRow s (grownCap w s.size 0 5)).size, (bytesRow s (grownCap w s.size 0 5)).size + 1))).drew w.heap.size s.data.toList :=
  Lies.made w s _ (grownCap_ge w s.size 0 5)

theorem Lies.set {w : World} {b : Nat} {l : List UInt8} (h : Lies w b l) (p : Nat) (hp : p < l.length) (c : UInt8) : Lies (w.setCell ⟨b, p, none⟩ (.int .u8 (c.toNat : Int))) b (l.set p c) := by
  refine ⟨fun j hj => ?_, fun j hj => ?_, by have := h.there; simpa using this⟩
  · rw [List.length_set] at hj
    by_cases e : p = j
    · subst e
      rw [World.cell?_setCell_same (u := .int .u8 (l[p].toNat : Int)) _ _ _ (h.at_ p hp), List.getElem_set_self]
    · rw [World.cell?_setCell_other _ _ _ _ (by intro hx; injection hx with _ hy; exact e hy), h.at_ j hj, List.getElem_set_ne e]
  · rw [World.frozen?_setCell]; exact h.free j (by simpa using hj)

theorem Lies.below {w w' : World} {b : Nat} {l : List UInt8} (h : Lies w b l) (k : Below w.heap.size w w') : Lies w' b l :=
  ⟨fun j hj => by rw [k.cell (p := ⟨b, j, none⟩) h.there]; exact h.at_ j hj, fun j hj => by rw [k.frozen (p := ⟨b, j, none⟩) h.there]; exact h.free j hj, Nat.lt_of_lt_of_le h.there k.size⟩

theorem Lies.text {w : World} {b : Nat} {l : List UInt8} (h : Lies w b l) (n cap : Nat) (hn : l.length = n) :
    (convert 30 9 (.slice (some ⟨b, 0, none⟩) n cap)).run Try.prog w = .ok (.string ⟨l.toArray⟩) w := by
  subst hn
  refine run_convert_bytes_back w 30 9 5 ⟨b, 0, none⟩ cap l Try.underlying30 Try.underlying5 Try.underlying9 ?_
  intro j hj
  rw [Addr.add_lit, Nat.zero_add]
  exact h.at_ j hj

theorem cat_front (s q : ByteArray) (n : Nat) (h : n = s.size) : (s ++ q).extract 0 n = s := by
  apply Go.WideShapes.bytes_inj
  rw [Lib.extract_data, ByteArray.data_append, Array.toList_append, List.drop_zero, h, ← list_len s, Nat.sub_zero, List.take_left' rfl]
theorem cat_back (s q : ByteArray) (n : Nat) (h : n = s.size) : (s ++ q).extract n (s ++ q).size = q := by
  apply Go.WideShapes.bytes_inj
  rw [Lib.extract_data, ByteArray.data_append, Array.toList_append, h, ← list_len s, List.drop_left' rfl, ByteArray.size_append, ← list_len s, Nat.add_sub_cancel_left, ← list_len q]
  exact List.take_of_length_le (Nat.le_refl _)

theorem get_same (s q : ByteArray) (w : World) (h : s.size ≤ 4096) (hq : sumB s = q) :
    Calls Try.prog 9 #[.string (s ++ q)] w fun e w' => e = .returned (.tuple #[.string s, .int .i64 0]) ∧ Below w.heap.size w w' := by
  have hz : (s ++ q).size = s.size + 4 := by rw [ByteArray.size_append, ← hq, sumB_size]
  have h4 : (s ++ q).size - 4 = s.size := by omega
  have hh := get_ok (s ++ q) w (by omega) (by omega) (by rw [cat_front s q _ h4, cat_back s q _ h4]; exact hq)
  rw [cat_front s q _ h4] at hh
  exact hh
theorem get_other (s q : ByteArray) (w : World) (h : s.size ≤ 4096) (hz : q.size = 4) (hq : sumB s ≠ q) :
    Calls Try.prog 9 #[.string (s ++ q)] w fun e w' => e = .returned (.tuple #[.string ⟨#[]⟩, .int .i64 5]) ∧ Below w.heap.size w w' := by
  have hz' : (s ++ q).size = s.size + 4 := by rw [ByteArray.size_append, hz]
  have h4 : (s ++ q).size - 4 = s.size := by omega
  exact get_sum (s ++ q) w (by omega) (by omega) (by rw [cat_front s q _ h4, cat_back s q _ h4]; exact hq)

theorem put_a (w : World) : Calls Try.prog 7 #[.string ⟨#[97]⟩] w fun e w' => e = .returned (.tuple #[.string ⟨#[97, 0, 98, 0, 98]⟩, .int .i64 0]) ∧ Below w.heap.size w w' :=
  put_fits ⟨#[97]⟩ w (by decide)

set_option maxRecDepth 100000 in
set_option maxHeartbeats 2000000 in
theorem tells_large (s : ByteArray) (i j a b : Int) (w : World) (h : 4096 < s.size) :
    Calls Try.prog 4 #[.string s, .int .i64 i, .int .i64 j, .int .u8 a, .int .u8 b] w fun r w' => r = .returned (.bool true) ∧ Below w.heap.size w w' := by
  have h' : (4096 : Int) < (s.size : Int) := by omega
  go_enter Try.func4, Try.ntmps4
  go_wp2_with fail
  refine (put_a _).mono ?_
  rintro r w1 ⟨rfl, hb1⟩
  go_wp2_with fail
  go_ret
  exact ⟨rfl, hb1⟩

set_option maxRecDepth 100000 in
set_option maxHeartbeats 2000000 in
theorem tells_none (i j a b : Int) (w : World) :
    Calls Try.prog 4 #[.string ⟨#[]⟩, .int .i64 i, .int .i64 j, .int .u8 a, .int .u8 b] w fun r w' => r = .returned (.bool true) ∧ Below w.heap.size w w' := by
  have h0 : (⟨#[]⟩ : ByteArray).size = 0 := rfl
  go_enter Try.func4, Try.ntmps4
  go_wp2_with fail
  refine (put_a _).mono ?_
  rintro r w1 ⟨rfl, hb1⟩
  go_wp2_with fail
  go_ret
  exact ⟨rfl, hb1⟩

theorem nonempty (s : ByteArray) (h : 0 < s.size) : s.toList.isEmpty = false := by
  rw [Lib.toList_data, List.isEmpty_eq_false_iff]
  intro h
  have := list_len s
  rw [h] at this
  simp at this; omega

set_option maxRecDepth 100000 in
set_option maxHeartbeats 2000000 in
theorem tells_fits (s : ByteArray) (i j : Int) (a b : UInt8) (w : World) (p q : Nat) (U T Q V : ByteArray) (x y G : Int) (h0 : 0 < s.size) (h1 : s.size ≤ 4096)
    (hp : i % (s.size : Int) = (p : Int)) (hq : j % (s.size : Int) = (q : Int)) (hp1 : p < s.size) (hq1 : q < s.size)
    (hU : U = ⟨((s.data.toList.set p a).set q b).toArray⟩) (hUs : U.size = s.size) (hQ : Q.size = 4)
    (P1 : Hid (∀ W, Calls Try.prog 7 #[.string s] W fun e w' => e = .returned (.tuple #[.string T, .int .i64 0]) ∧ Below W.heap.size W w'))
    (P2 : Hid (∀ W, Calls Try.prog 9 #[.string T] W fun e w' => e = .returned (.tuple #[.string s, .int .i64 0]) ∧ Below W.heap.size W w'))
    (P3 : Hid (∀ W, Calls Try.prog 9 #[.string (U ++ Q)] W fun e w' => e = .returned (.tuple #[.string V, .int .i64 G]) ∧ Below W.heap.size W w'))
    (P4 : Hid (∀ W, Calls Try.prog 5 #[.string U] W fun e w' => e = .returned (.int .u32 x) ∧ w' = W))
    (P5 : Hid (∀ W, Calls Try.prog 5 #[.string s] W fun e w' => e = .returned (.int .u32 y) ∧ w' = W))
    (hcut : ∀ W : World, (Instr.slice 9 (.string T) (some (.int .i64 (s.size : Int))) none none).run Try.prog W = .ok (.string Q) W)
    (hc1 : ((U.toList == s.toList) == (x == y)) = true) (hc2 : ((U.toList == s.toList) == (G == 0)) = true) :
    Calls Try.prog 4 #[.string s, .int .i64 i, .int .i64 j, .int .u8 (a.toNat : Int), .int .u8 (b.toNat : Int)] w fun r w' => r = .returned (.bool true) ∧ Below w.heap.size w w' := by
  have h0' : 0 < (s.size : Int) := by omega
  have h1' : (s.size : Int) ≤ 4096 := by omega
  have hemp := nonempty s h0
  have hp2 : (p : Int) < (s.size : Int) := by omega
  have hq2 : (q : Int) < (s.size : Int) := by omega
  have R1 := hide fun W => rest_any i (s.size : Int) W h0' (by omega)
  have R2 := hide fun W => rest_any j (s.size : Int) W h0' (by omega)
  rw [hp] at R1
  rw [hq] at R2
  clear hp hq
  have hcv := fun W => run_bytes_of_string (P := Try.prog) W 9 30 5 s Try.underlying9 Try.underlying30 Try.underlying5
  have hl := list_len s
  have hcat := fun W => run_string_add_sum (P := Try.prog) W U Q (by omega)
  have hlim : ¬ (9223372036854775807 < U.size + Q.size) := by omega
  have HU := hide hU
  clear hUs hQ hU
  go_enter Try.func4, Try.ntmps4
  go_wp2_with fail
  refine (put_a _).mono ?_
  rintro r w1 ⟨rfl, hb1⟩
  go_wp2_with fail
  refine (R1.out _).mono ?_
  rintro r w2 ⟨rfl, hw2⟩
  have l2 : Lies w2 w1.heap.size s.data.toList := hw2 ▸ Lies.made' w1 s
  have hb2 : Below w1.heap.size w1 w2 := hw2 ▸ ((Below.refl _ w1).alloc (Nat.le_refl _) _).drew
  have b2 : Below w.heap.size w w2 := chain hb1 hb2
  have hwB : w.heap.size ≤ w1.heap.size := hb1.size
  generalize grownCap w1 s.size 0 5 = cap at *
  generalize w1.heap.size = B at *
  have k2 := l2.at_ p (by omega)
  have f2 := l2.free p (by omega)
  clear hw2 hcv hb1 hb2
  go_wp2_with fail
  refine (R2.out _).mono ?_
  rintro r w3 ⟨rfl, hw3⟩
  have l3 : Lies w3 B (s.data.toList.set p a) := hw3 ▸ l2.set p (by omega) a
  have b3 : Below w.heap.size w w3 := hw3 ▸ b2.setCell (p := ⟨B, p, none⟩) hwB _
  have k3 := l3.at_ q (by rw [List.length_set]; omega)
  have f3 := l3.free q (by rw [List.length_set]; omega)
  clear hw3 k2 f2 l2 b2
  go_wp2_with fail
  have l3' := l3.set q (by rw [List.length_set]; omega) b
  have b3' := b3.setCell (p := ⟨B, q, none⟩) hwB (.int .u8 (b.toNat : Int))
  clear k3 f3 l3 b3
  generalize w3.setCell ⟨B, q, none⟩ (.int .u8 (b.toNat : Int)) = w3' at *
  refine (P1.out _).mono ?_
  rintro r w4 ⟨rfl, hb4⟩
  have b4 : Below w.heap.size w w4 := chain b3' hb4
  have l4 := l3'.below hb4
  clear hb4 b3' l3'
  go_wp2_with fail
  refine (P2.out _).mono ?_
  rintro r w5 ⟨rfl, hb5⟩
  have b5 : Below w.heap.size w w5 := chain b4 hb5
  have l5 := l4.below hb5
  have t5 := l5.text s.size cap (by rw [List.length_set, List.length_set]; omega)
  rw [← HU.out] at t5
  clear hb5 b4 l4
  go_wp2_with fail
  have l5d : Lies w5.drew B ((s.data.toList.set p a).set q b) := ⟨l5.at_, l5.free, l5.there⟩
  have t5d := l5d.text s.size cap (by rw [List.length_set, List.length_set]; omega)
  rw [← HU.out] at t5d
  have tx : ∀ W, Below w5.drew.heap.size w5.drew W → (convert 30 9 (.slice (some ⟨B, 0, none⟩) s.size cap)).run Try.prog W = .ok (.string U) W := fun W hW => by
    have t := (l5d.below hW).text s.size cap (by rw [List.length_set, List.length_set]; omega)
    rw [← HU.out] at t
    exact t
  go_region_held3 (fun W => (convert 30 9 (.slice (some ⟨B, 0, none⟩) s.size cap)).run Try.prog W = .ok (.string U) W) (first | assumption | exact tx _ (by assumption)) ((go_at_call 9; refine (P3.out _).mono ?_; rintro r w6 ⟨rfl, hb6⟩))
  have l6 := l5d.below hb6
  have b6 : Below w.heap.size w w6 := chain b5 (drawn1 hb6)
  have t6 := l6.text s.size cap (by rw [List.length_set, List.length_set]; omega)
  rw [← HU.out] at t6
  clear t5 t5d l5 l5d hb6 b5 l6
  go_wp2_with fail
  refine (P4.out _).mono ?_
  rintro r w7 ⟨rfl, rfl⟩
  go_wp2_with fail
  refine (P5.out _).mono ?_
  rintro r w8 ⟨rfl, rfl⟩
  go_wp2_with fail
  go_ret
  exact ⟨rfl, b6⟩

theorem sum_of_bytes {s t : ByteArray} (h : sumB s = sumB t) : Fo.sum s.data.toList = Fo.sum t.data.toList := by
  have h2 : Fo.four (Fo.sum s.data.toList) = Fo.four (Fo.sum t.data.toList) := by
    have := congrArg (fun x : ByteArray => x.data.toList) h
    simpa only [sumB] using this
  exact Fo.four_inj (Fo.sum_lt _) (Fo.sum_lt _) h2

theorem mk_list (l : List UInt8) : (⟨l.toArray⟩ : ByteArray).data.toList = l := rfl

theorem tells_all (s : ByteArray) (i j : Int) (a b : UInt8) (w : World) (h0 : 0 < s.size) (h1 : s.size ≤ 4096) :
    Calls Try.prog 4 #[.string s, .int .i64 i, .int .i64 j, .int .u8 (a.toNat : Int), .int .u8 (b.toNat : Int)] w fun r w' => r = .returned (.bool true) ∧ Below w.heap.size w w' := by
  have h0' : 0 < (s.size : Int) := by omega
  obtain ⟨p, hp⟩ := Int.eq_ofNat_of_zero_le (Int.emod_nonneg i (by omega : (s.size : Int) ≠ 0))
  obtain ⟨q, hq⟩ := Int.eq_ofNat_of_zero_le (Int.emod_nonneg j (by omega : (s.size : Int) ≠ 0))
  have hp1 : p < s.size := by have := Int.emod_lt_of_pos i h0'; omega
  have hq1 : q < s.size := by have := Int.emod_lt_of_pos j h0'; omega
  have hl := list_len s
  have hsize : (⟨((s.data.toList.set p a).set q b).toArray⟩ : ByteArray).size = s.size := by
    rw [← list_len]; simp
  have htell := Fo.tells s.data.toList p q a b (by omega) (by omega) (by omega)
  have hcut : ∀ W : World, (Instr.slice 9 (.string (s ++ sumB s)) (some (.int .i64 (s.size : Int))) none none).run Try.prog W = .ok (.string (sumB s)) W := fun W => by
    have h := cut_from (s ++ sumB s) (s.size : Int) (by omega) (by rw [ByteArray.size_append]; omega) W
    rw [show ((s.size : Int)).toNat = s.size from by omega, cat_back s (sumB s) _ rfl] at h
    exact h
  by_cases hE : (s.data.toList.set p a).set q b = s.data.toList
  · have hU : (⟨((s.data.toList.set p a).set q b).toArray⟩ : ByteArray) = s := by rw [hE]
    exact tells_fits s i j a b w p q _ (s ++ sumB s) (sumB s) s _ _ 0 h0 h1 hp hq hp1 hq1 rfl hsize (sumB_size s)
      (hide fun W => put_fits s W h1) (hide fun W => get_same s _ W h1 rfl) (hide fun W => by rw [hU]; exact get_same s _ W h1 rfl)
      (hide fun W => sum_any _ W (by rw [hsize]; unfold maxLen; omega)) (hide fun W => sum_any s W (by unfold maxLen; omega)) hcut
      (by rw [hU]; simp) (by rw [hU]; simp)
  · have hne : Fo.sum ((s.data.toList.set p a).set q b) ≠ Fo.sum s.data.toList := fun h => hE (htell h)
    have hns : sumB ⟨((s.data.toList.set p a).set q b).toArray⟩ ≠ sumB s := by
      intro h
      have h2 := sum_of_bytes h
      rw [mk_list] at h2
      exact hne h2
    have hbb : ((⟨((s.data.toList.set p a).set q b).toArray⟩ : ByteArray).toList == s.toList) = false := by
      rw [Lib.toList_data, Lib.toList_data, beq_eq_false_iff_ne]; exact hE
    exact tells_fits s i j a b w p q _ (s ++ sumB s) (sumB s) ⟨#[]⟩ _ _ 5 h0 h1 hp hq hp1 hq1 rfl hsize (sumB_size s)
      (hide fun W => put_fits s W h1) (hide fun W => get_same s _ W h1 rfl) (hide fun W => get_other _ _ W (by rw [hsize]; exact h1) (sumB_size s) hns)
      (hide fun W => sum_any _ W (by rw [hsize]; unfold maxLen; omega)) (hide fun W => sum_any s W (by unfold maxLen; omega)) hcut
      (by rw [hbb, mk_list]; simp; exact fun h => hne (Int.ofNat_inj.1 h)) (by rw [hbb]; rfl)

theorem tells_walk (a0 : ByteArray) (a1 a2 a3 a4 : Int) (_ : a0.size ≤ 140737488351232) (_ : (Lit.int .i64 a1).wf = true) (_ : (Lit.int .i64 a2).wf = true) (w3 : (Lit.int .u8 a3).wf = true) (w4 : (Lit.int .u8 a4).wf = true) (w : World) :
    Calls Try.prog 4 #[.string a0, .int .i64 a1, .int .i64 a2, .int .u8 a3, .int .u8 a4] w fun e w' => e = .returned (.bool true) ∧ Below w.heap.size w w' := by
  have b3 := bounds_u8 w3
  have b4 := bounds_u8 w4
  by_cases h : 4096 < a0.size
  · exact tells_large a0 a1 a2 a3 a4 w h
  · by_cases hz : a0.size = 0
    · obtain rfl : a0 = ⟨#[]⟩ := by
        apply Go.WideShapes.bytes_inj
        have := list_len a0
        rw [hz] at this
        exact List.eq_nil_of_length_eq_zero this
      exact tells_none a1 a2 a3 a4 w
    · have e3 : ((UInt8.ofNat a3.toNat).toNat : Int) = a3 := by rw [Fo.toNat_of _ (by omega)]; omega
      have e4 : ((UInt8.ofNat a4.toNat).toNat : Int) = a4 := by rw [Fo.toNat_of _ (by omega)]; omega
      have hh := tells_all a0 a1 a2 (UInt8.ofNat a3.toNat) (UInt8.ofNat a4.toNat) w (by omega) (by omega)
      rw [e3, e4] at hh
      exact hh
end Go.Proofs.Ytmgdefjcmfmcfaf
