/-
  fold.sumText, Join, Put and Get, walked.
-/
import Derived.Test.YthfpinjegfgeiaaFoldSum
import Derived.Laws.Concat
namespace Go.Proofs.Ythfpinjegfgeiaa.PFold
open Go.RowKit

theorem hide {p : Prop} (h : p) : Hid p := h

theorem conv_four (W : World) (b : Nat) (c0 c1 c2 c3 : Int) (k0 : W.cell? ⟨b, 0, none⟩ = some (.int .u8 c0)) (k1 : W.cell? ⟨b, 1, none⟩ = some (.int .u8 c1))
    (k2 : W.cell? ⟨b, 2, none⟩ = some (.int .u8 c2)) (k3 : W.cell? ⟨b, 3, none⟩ = some (.int .u8 c3))
    (h0 : 0 ≤ c0 ∧ c0 < 256) (h1 : 0 ≤ c1 ∧ c1 < 256) (h2 : 0 ≤ c2 ∧ c2 < 256) (h3 : 0 ≤ c3 ∧ c3 < 256) :
    (convert 72 9 (.slice (some ⟨b, 0, none⟩) 4 4)).run Try.prog W = .ok (.string ⟨[UInt8.ofNat c0.toNat, UInt8.ofNat c1.toNat, UInt8.ofNat c2.toNat, UInt8.ofNat c3.toNat].toArray⟩) W := by
  refine run_convert_bytes_back W 72 9 5 ⟨b, 0, none⟩ 4 [UInt8.ofNat c0.toNat, UInt8.ofNat c1.toNat, UInt8.ofNat c2.toNat, UInt8.ofNat c3.toNat] Try.underlying72 Try.underlying5 Try.underlying9 ?_
  have e : ∀ c : Int, 0 ≤ c ∧ c < 256 → ((UInt8.ofNat c.toNat).toNat : Int) = c := fun c h => by rw [Fo.toNat_of _ (by omega)]; omega
  intro j hj
  match j, hj with
  | 0, _ => simp only [List.getElem_cons_zero, e _ h0]; simpa [Addr.add] using k0
  | 1, _ => simp only [List.getElem_cons_zero, List.getElem_cons_succ, e _ h1]; simpa [Addr.add] using k1
  | 2, _ => simp only [List.getElem_cons_zero, List.getElem_cons_succ, e _ h2]; simpa [Addr.add] using k2
  | 3, _ => simp only [List.getElem_cons_zero, List.getElem_cons_succ, e _ h3]; simpa [Addr.add] using k3

def sumB (s : ByteArray) : ByteArray := ⟨(Fo.four (Fo.sum s.data.toList)).toArray⟩

theorem conv_alloc (n : Nat) (hn : n < 4294967296) (W : World) :
    (convert 72 9 (.slice (some ⟨W.heap.size, 0, none⟩) 4 4)).run Try.prog (W.alloc (.cells #[.int .u8 ((n : Int) / 16777216), .int .u8 ((n : Int) / 65536 % 256), .int .u8 ((n : Int) / 256 % 256), .int .u8 ((n : Int) % 256)] 5)) =
      .ok (.string ⟨(Fo.four n).toArray⟩) (W.alloc (.cells #[.int .u8 ((n : Int) / 16777216), .int .u8 ((n : Int) / 65536 % 256), .int .u8 ((n : Int) / 256 % 256), .int .u8 ((n : Int) % 256)] 5)) := by
  rw [conv_four _ W.heap.size _ _ _ _ (by simp; rfl) (by simp; rfl) (by simp; rfl) (by simp; rfl) (by omega) (by omega) (by omega) (by omega)]
  unfold Fo.four
  rw [show ((n : Int) / 16777216).toNat = n / 16777216 from by omega, show ((n : Int) / 65536 % 256).toNat = n / 65536 % 256 from by omega, show ((n : Int) / 256 % 256).toNat = n / 256 % 256 from by omega, show ((n : Int) % 256).toNat = n % 256 from by omega]

set_option maxRecDepth 100000 in
set_option maxHeartbeats 1000000 in
theorem sumText_any (s : ByteArray) (w : World) (hs : s.size ≤ maxLen) :
    Calls Try.prog 47 #[.string s] w fun e w' => e = .returned (.string (sumB s)) ∧ Below w.heap.size w w' := by
  have H := hide fun W => sum_any s W hs
  have hn := Fo.sum_lt s.data.toList
  unfold sumB
  generalize Fo.sum s.data.toList = n at *
  have hc := conv_alloc n hn
  have hn' : (n : Int) ≤ 4294967295 := by omega
  go_enter Try.func47, Try.ntmps47
  go_wp2_with fail
  refine (H.out _).mono ?_
  rintro r w1 ⟨rfl, rfl⟩
  go_wp2_with fail
  go_ret
  exact ⟨rfl, (Below.refl _ _).alloc (Nat.le_refl _) _⟩

theorem sumB_size (s : ByteArray) : (sumB s).size = 4 := rfl

set_option maxRecDepth 100000 in
theorem put_large (s : ByteArray) (w : World) (h : 4096 < s.size) :
    Calls Try.prog 19 #[.string s] w fun e w' => e = .returned (.tuple #[.string ⟨#[]⟩, .int .i64 2]) ∧ w' = w := by
  have h' : (4096 : Int) < (s.size : Int) := by omega
  go_enter Try.func19, Try.ntmps19
  go_wp2_with fail
  go_ret2
  exact ⟨rfl, rfl⟩

set_option maxRecDepth 100000 in
theorem put_fits (s : ByteArray) (w : World) (h : s.size ≤ 4096) :
    Calls Try.prog 19 #[.string s] w fun e w' => e = .returned (.tuple #[.string (s ++ sumB s), .int .i64 0]) ∧ Below w.heap.size w w' := by
  have h' : (s.size : Int) ≤ 4096 := by omega
  have H := hide fun W => sumText_any s W (by unfold maxLen; omega)
  have hq := sumB_size s
  generalize sumB s = q at *
  go_enter Try.func19, Try.ntmps19
  go_wp2_with fail
  refine (H.out _).mono ?_
  rintro r w1 ⟨rfl, hb⟩
  go_wp2_with fail
  go_ret2
  exact ⟨rfl, hb⟩

set_option maxRecDepth 100000 in
theorem rest_any (a n : Int) (w : World) (hn0 : 0 < n) (hn1 : n ≤ 140737488355328) :
    Calls Try.prog 26 #[.int .i64 a, .int .i64 n] w fun e w' => e = .returned (.int .i64 (a % n)) ∧ w' = w := by
  have t1 : a.tmod n < n := Int.tmod_lt_of_pos a hn0
  have t0 : -n < a.tmod n := by
    rcases Int.le_total 0 a with h | h
    · have := Int.tmod_nonneg n h; omega
    · have e : a.tmod n = -((-a).tmod n) := by rw [Int.neg_tmod, Int.neg_neg]
      have := Int.tmod_lt_of_pos (-a) hn0
      omega
  have HE : Hid ((a.tmod n + n) % n = a % n) := by
    show _ = _
    have e : a.tmod n = a + n * -(a.tdiv n) := by have := Int.tmod_add_mul_tdiv a n; rw [Int.mul_neg]; omega
    rw [Int.add_emod_right, e, Int.add_mul_emod_self_left]
  go_enter Try.func26, Try.ntmps26
  go_wp2_with fail
  go_ret
  exact ⟨by rw [← HE.out]; rfl, rfl⟩

def mx (x y : Int) : Int := if y > x then y else x
theorem max_four (ts : Array TypeId) (t : TypeId) (k : IntKind) (a b c d : Int) (W : World) :
    (Builtin.max_ ts t #[.int k a, .int k b, .int k c, .int k d]).run Try.prog W = .ok (.int k (mx (mx (mx a b) c) d)) W := rfl
theorem mx_four (a b c d l : Int) : l ≤ mx (mx (mx a b) c) d ↔ l ≤ a ∨ l ≤ b ∨ l ≤ c ∨ l ≤ d := by
  unfold mx; repeat' split
  all_goals omega

set_option maxRecDepth 100000 in
set_option maxHeartbeats 1000000 in
theorem join_bad (x y n : Int) (w : World) (hx0 : 0 ≤ x) (hx1 : x ≤ 4294967295) (hy0 : 0 ≤ y) (hy1 : y ≤ 4294967295)
    (h : n < 0 ∨ 4096 < n ∨ 65521 ≤ x % 65536 ∨ 65521 ≤ x / 65536 ∨ 65521 ≤ y % 65536 ∨ 65521 ≤ y / 65536) :
    Calls Try.prog 23 #[.int .u32 x, .int .u32 y, .int .i64 n] w fun e w' => e = .returned (.tuple #[.int .u32 0, .int .i64 1]) ∧ w' = w := by
  have H1 := hide fun W => split_any x W hx0 hx1
  have H2 := hide fun W => split_any y W hy0 hy1
  generalize x % 65536 = ax at *
  generalize x / 65536 = bx at *
  generalize y % 65536 = ay at *
  generalize y / 65536 = bY at *
  have hm := fun W => max_four #[36, 36, 36, 36] 36 .u32 ax bx ay bY W
  have hl := mx_four ax bx ay bY 65521
  generalize mx (mx (mx ax bx) ay) bY = m at *
  have h' : n < 0 ∨ 4096 < n ∨ 65521 ≤ m := by rw [hl]; exact h
  clear h hl
  go_enter Try.func23, Try.ntmps23
  go_wp2_with fail
  refine (H1.out _).mono ?_
  rintro r w1 ⟨rfl, rfl⟩
  go_wp2_with fail
  refine (H2.out _).mono ?_
  rintro r w2 ⟨rfl, rfl⟩
  go_wp2_with fail
  all_goals first | (go_ret2; exact ⟨rfl, rfl⟩) | (exfalso; omega)

set_option maxRecDepth 100000 in
set_option maxHeartbeats 1000000 in
theorem join_good (x y n : Int) (w : World) (hx0 : 0 ≤ x) (hx1 : x ≤ 4294967295) (hy0 : 0 ≤ y) (hy1 : y ≤ 4294967295)
    (h0 : 0 ≤ n) (h1 : n ≤ 4096) (h2 : x % 65536 ≤ 65520) (h3 : x / 65536 ≤ 65520) (h4 : y % 65536 ≤ 65520) (h5 : y / 65536 ≤ 65520) :
    Calls Try.prog 23 #[.int .u32 x, .int .u32 y, .int .i64 n] w fun e w' =>
      e = .returned (.tuple #[.int .u32 ((x / 65536 + y / 65536 + n * ((x % 65536 + 65520) % 65521)) % 65521 * 65536 + ((x % 65536 + 65520) % 65521 + y % 65536) % 65521), .int .i64 0]) ∧ w' = w := by
  have H1 := hide fun W => split_any x W hx0 hx1
  have H2 := hide fun W => split_any y W hy0 hy1
  have k2 : 0 ≤ x % 65536 := by omega
  have k3 : 0 ≤ x / 65536 := by omega
  have k4 : 0 ≤ y % 65536 := by omega
  have k5 : 0 ≤ y / 65536 := by omega
  generalize x % 65536 = ax at *
  generalize x / 65536 = bx at *
  generalize y % 65536 = ay at *
  generalize y / 65536 = bY at *
  have hm := fun W => max_four #[36, 36, 36, 36] 36 .u32 ax bx ay bY W
  have hl := mx_four ax bx ay bY 65521
  generalize mx (mx (mx ax bx) ay) bY = m at *
  have h' : m < 65521 := by omega
  clear hl
  have hf0 : 0 ≤ (ax + 65520) % 65521 := by omega
  have hf1 : (ax + 65520) % 65521 ≤ 65520 := by omega
  have hnf0 : 0 ≤ n * ((ax + 65520) % 65521) := Int.mul_nonneg h0 hf0
  have hnf1 : n * ((ax + 65520) % 65521) ≤ 4096 * 65520 := Int.mul_le_mul h1 hf1 hf0 (by omega)
  have HE : Hid ((bx + bY + n * ((ax + 65521 - 1) % 65521)) % 4294967296 % 65521 * 65536 + (ax + 65521 - 1 + ay) % 65521 = (bx + bY + n * ((ax + 65520) % 65521)) % 65521 * 65536 + ((ax + 65520) % 65521 + ay) % 65521) := by
    show _ = _
    rw [show ax + 65521 - 1 = ax + 65520 from by omega]
    generalize n * ((ax + 65520) % 65521) = P at *
    omega
  have HP := hide fun (a b : Int) W ha0 ha hb0 hb => pack_any a b W ha0 ha hb0 hb
  go_enter Try.func23, Try.ntmps23
  go_wp2_with fail
  refine (H1.out _).mono ?_
  rintro r w1 ⟨rfl, rfl⟩
  go_wp2_with fail
  refine (H2.out _).mono ?_
  rintro r w2 ⟨rfl, rfl⟩
  go_wp2_with fail
  refine (HP.out _ _ _ (by omega) (by omega) (by omega) (by omega)).mono ?_
  rintro r w3 ⟨rfl, rfl⟩
  go_wp2_with fail
  go_ret2
  exact ⟨congrArg (fun z => Ending.returned (.tuple #[.int .u32 z, .int .i64 0])) HE.out, rfl⟩
end Go.Proofs.Ythfpinjegfgeiaa.PFold
