/- strings.Repeat of one nought; quirref.Rest by 4; slices.Contains at texts. -/
import Derived.Test.YtbemaiiloljocafSectMay
import Derived.Shelf.Strings.Repeat
namespace Go.Proofs.Ytbemaiiloljocaf
open Go Go.RowKit Go.Shelf
set_option maxRecDepth 100000

def repRen : Ren := ⟨fun | 0 => 0 | 1 => 1 | 2 => 2 | 99 => 26 | 105 => 14 | 109 => 32 | 110 => 18 | 165 => 27 | 166 => 28 | 169 => 30 | 170 => 29 | 206 => 36 | 212 => 25 | 240 => 37 | 241 => 38 | 263 => 34 | 264 => 35 | 276 => 39 | 277 => 40 | 316 => 33 | 347 => 41 | 348 => 42 | 349 => 43 | 350 => 44 | 351 => 45 | 352 => 46 | 353 => 47 | 354 => 48 | 355 => 49 | 356 => 50 | 357 => 51 | 358 => 52 | 359 => 53 | 360 => 54 | 361 => 55 | 362 => 56 | 366 => 57 | n => n, fun | 0 => 0 | 1 => 1 | 2 => 2 | 3 => 3 | 4 => 4 | 5 => 5 | 6 => 6 | 7 => 7 | 8 => 8 | 9 => 9 | 10 => 10 | 11 => 11 | 12 => 12 | 13 => 13 | 14 => 14 | 15 => 15 | 16 => 16 | 17 => 17 | 18 => 18 | 19 => 19 | 20 => 20 | 21 => 21 | 22 => 27 | 26 => 42 | 31 => 40 | 32 => 76 | 33 => 48 | 37 => 30 | 46 => 64 | 51 => 22 | 53 => 78 | 69 => 53 | 70 => 67 | 71 => 68 | 72 => 69 | 73 => 45 | 75 => 71 | 76 => 72 | 77 => 73 | 80 => 75 | 81 => 74 | 109 => 65 | 110 => 66 | 111 => 58 | 127 => 81 | 146 => 51 | 147 => 77 | 148 => 79 | 149 => 80 | 164 => 82 | 165 => 83 | 166 => 84 | 233 => 60 | 238 => 85 | 239 => 86 | 240 => 87 | 241 => 88 | 242 => 89 | 243 => 90 | 244 => 91 | 245 => 92 | 246 => 93 | 247 => 94 | 248 => 95 | 249 => 96 | n => n, fun n => n⟩

theorem repLays : Lays.n105 Try.prog repRen :=
  { mixed := by kernel_rfl,
    f99 := by kernel_rfl,
    f105 := by kernel_rfl,
    f165 := by kernel_rfl,
    f166 := by kernel_rfl,
    f169 := by kernel_rfl,
    f170 := by kernel_rfl,
    f206 := by kernel_rfl,
    f212 := by kernel_rfl,
    f240 := by kernel_rfl,
    f241 := by kernel_rfl,
    f263 := by kernel_rfl,
    f264 := by kernel_rfl,
    f276 := by kernel_rfl,
    f277 := by kernel_rfl,
    t0 := by kernel_rfl,
    a0 := fun _ => by kernel_rfl,
    z0 := fun _ => by kernel_rfl,
    v0 := fun _ => by kernel_rfl,
    t3 := by kernel_rfl,
    a3 := fun _ => by kernel_rfl,
    z3 := fun _ => by kernel_rfl,
    v3 := fun _ => by kernel_rfl,
    t4 := by kernel_rfl,
    a4 := fun _ => by kernel_rfl,
    z4 := fun _ => by kernel_rfl,
    v4 := fun _ => by kernel_rfl,
    t5 := by kernel_rfl,
    a5 := fun _ => by kernel_rfl,
    z5 := fun _ => by kernel_rfl,
    v5 := fun _ => by kernel_rfl,
    t9 := by kernel_rfl,
    a9 := fun _ => by kernel_rfl,
    z9 := fun _ => by kernel_rfl,
    v9 := fun _ => by kernel_rfl,
    t20 := by kernel_rfl,
    a20 := fun _ => by kernel_rfl,
    z20 := fun _ => by kernel_rfl,
    v20 := fun _ => by kernel_rfl,
    t37 := by kernel_rfl,
    a37 := fun _ => by kernel_rfl,
    z37 := fun _ => by kernel_rfl,
    v37 := fun _ => by kernel_rfl,
    t46 := by kernel_rfl,
    a46 := fun _ => by kernel_rfl,
    z46 := fun _ => by kernel_rfl,
    v46 := fun _ => by kernel_rfl,
    t51 := by kernel_rfl,
    a51 := fun _ => by kernel_rfl,
    z51 := fun _ => by kernel_rfl,
    v51 := fun _ => by kernel_rfl,
    t53 := by kernel_rfl,
    a53 := fun _ => by kernel_rfl,
    z53 := fun _ => by kernel_rfl,
    v53 := fun _ => by kernel_rfl,
    t70 := by kernel_rfl,
    a70 := fun _ => by kernel_rfl,
    z70 := fun _ => by kernel_rfl,
    v70 := fun _ => by kernel_rfl,
    t72 := by kernel_rfl,
    a72 := fun _ => by kernel_rfl,
    z72 := fun _ => by kernel_rfl,
    v72 := fun _ => by kernel_rfl,
    t75 := by kernel_rfl,
    a75 := fun _ => by kernel_rfl,
    z75 := fun _ => by kernel_rfl,
    v75 := fun _ => by kernel_rfl,
    t76 := by kernel_rfl,
    a76 := fun _ => by kernel_rfl,
    z76 := fun _ => by kernel_rfl,
    v76 := fun _ => by kernel_rfl,
    t109 := by kernel_rfl,
    a109 := fun _ => by kernel_rfl,
    z109 := fun _ => by kernel_rfl,
    v109 := fun _ => by kernel_rfl,
    t127 := by kernel_rfl,
    a127 := fun _ => by kernel_rfl,
    z127 := fun _ => by kernel_rfl,
    v127 := fun _ => by kernel_rfl,
    t146 := by kernel_rfl,
    a146 := fun _ => by kernel_rfl,
    z146 := fun _ => by kernel_rfl,
    v146 := fun _ => by kernel_rfl,
    t148 := by kernel_rfl,
    a148 := fun _ => by kernel_rfl,
    z148 := fun _ => by kernel_rfl,
    v148 := fun _ => by kernel_rfl,
    t164 := by kernel_rfl,
    a164 := fun _ => by kernel_rfl,
    z164 := fun _ => by kernel_rfl,
    v164 := fun _ => by kernel_rfl }

theorem repExtra : Builder.Extra Try.prog repRen where
  sizeBuilder := by kernel_rfl
  liesBuilder := by kernel_rfl
  t5 := by kernel_rfl
  a5 := fun _ => by kernel_rfl
  z5 := fun _ => by kernel_rfl
  v5 := fun _ => by kernel_rfl
  infoByte := by kernel_rfl
  cellsByte := by kernel_rfl
  sizeByte := by kernel_rfl
  neB5 := by decide

theorem rep_zeros : ∀ c, Lib.repeatL [0] c = List.replicate c (0 : UInt8)
  | 0 => rfl
  | c + 1 => by rw [Lib.repeatL, rep_zeros c]; rfl

theorem repeat_any (c : Nat) (hc : c ≤ 1000) (w : World) : Calls Try.prog 14 #[.string ⟨#[0]⟩, .int .i64 (c : Int)] w fun e w' => e = .returned (.string (zeros c)) ∧ Below w.heap.size w w' := by
  have h := Any.strings_Repeat repLays repExtra ⟨#[0]⟩ c w (by omega) (by show 1 * c ≤ _; omega)
  have e : (⟨(Lib.repeatL (⟨#[0]⟩ : ByteArray).data.toList c).toArray⟩ : ByteArray) = zeros c := by
    show (⟨(Lib.repeatL [0] c).toArray⟩ : ByteArray) = zeros c
    rw [rep_zeros]; rfl
  rw [e] at h
  exact h

theorem rest4_any (a : Int) (w : World) : Calls Try.prog 9 #[.int .i64 a, .int .i64 4] w fun e w' => e = .returned (.int .i64 (a % 4)) ∧ w' = w := by
  have t1 : a.tmod 4 < 4 := Int.tmod_lt_of_pos a (by omega)
  have t0 : -4 < a.tmod 4 := by
    rcases Int.le_total 0 a with h | h
    · have := Int.tmod_nonneg 4 h; omega
    · have e : a.tmod 4 = -((-a).tmod 4) := by rw [Int.neg_tmod, Int.neg_neg]
      have := Int.tmod_lt_of_pos (-a) (by omega : (0 : Int) < 4)
      omega
  have HE : Hid ((a.tmod 4 + 4) % 4 = a % 4) := by
    show _ = _
    have e : a.tmod 4 = a + 4 * -(a.tdiv 4) := by have := Int.tmod_add_mul_tdiv a 4; rw [Int.mul_neg]; omega
    rw [Int.add_emod_right, e, Int.add_mul_emod_self_left]
  go_enter Try.func9, Try.ntmps9
  go_wp2_with fail
  go_ret
  exact ⟨by rw [← HE.out]; rfl, rfl⟩

theorem str_ne {a b : ByteArray} (h : a ≠ b) : (a.toList == b.toList) = false := by
  rw [beq_eq_false_iff_ne]; intro hx; exact h (Go.WideShapes.bytes_inj (by rw [← Lib.toList_data, ← Lib.toList_data]; exact hx))

set_option maxHeartbeats 1000000 in
theorem index_any (w : World) (g o c : Nat) (l : List ByteArray) (h : TxAt w g o c l) (v : ByteArray) (hv : v ∈ l) :
    Calls Try.prog 32 #[.slice (some ⟨g, o, none⟩) l.length c, .string v] w fun e w' => (∃ k : Nat, e = .returned (.int .i64 (k : Int))) ∧ w' = w := by
  have H := hid h
  have hm : l.length ≤ 9223372036854775807 := by have := h.len; have := h.cap; unfold maxLen at this; omega
  have HV := hid hv
  clear h hv
  go_enter Try.func32, Try.ntmps32
  go_wp2_with fail
  go_loopw [8] (fun i wr => ∃ k : Nat, k ≤ l.length ∧ i = .int .i64 k ∧ wr = w ∧ Hid (∀ j, j < k → l[j]? ≠ some v)) (fun i _ => l.length - (intOf i).toNat)
  case atStart => exact ⟨0, Nat.zero_le _, rfl, rfl, fun j hj => by omega⟩
  case round =>
    obtain ⟨k, hk, rfl, rfl, hn⟩ := hrel
    by_cases hlt : k < l.length
    · obtain ⟨t, ht⟩ : ∃ t, l[k]? = some t := ⟨_, List.getElem?_eq_getElem hlt⟩
      have hc := H.out.cell k t ht
      have k0 : (0 : Int) ≤ (k : Int) := by omega
      have k1 : (k : Int) < l.length := by omega
      have HT := hid ht
      clear ht
      by_cases e : v = t
      · subst e
        go_wp2_with fail
        all_goals (go_ret; exact ⟨⟨k, rfl⟩, rfl⟩)
      · have e1 := str_ne e
        go_wp2_with fail
        go_roundw
        case rel => exact ⟨k + 1, by omega, by go_num, trivial, fun j hj => by
          by_cases ej : j = k
          · rw [ej, HT.out]; intro ex; exact e (Option.some.inj ex).symm
          · exact hn.out j (by omega)⟩
        case measure => simp [intOf]; omega
    · exfalso
      obtain ⟨j, hj⟩ := List.getElem?_of_mem HV.out
      exact hn.out j (by have := (List.getElem?_eq_some_iff.1 hj).1; omega) hj

theorem contains_any (w : World) (g o c : Nat) (l : List ByteArray) (h : TxAt w g o c l) (v : ByteArray) (hv : v ∈ l) :
    Calls Try.prog 18 #[.slice (some ⟨g, o, none⟩) l.length c, .string v] w fun e w' => e = .returned (.bool true) ∧ w' = w := by
  have H := hid (index_any w g o c l h v hv)
  clear h
  go_enter Try.func18, Try.ntmps18
  go_wp2_with fail
  refine H.out.mono ?_
  rintro r w1 ⟨⟨k, rfl⟩, rfl⟩
  have k0 : decide ((0 : Int) ≤ (k : Int)) = true := by simp
  go_wp2_with fail
  go_ret
  exact ⟨rfl, rfl⟩

end Go.Proofs.Ytbemaiiloljocaf
