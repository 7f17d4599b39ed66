/-
  code.PutNat, walked: for every number below 2^64 the call returns the bytes that 'Nb.natB' gives, and nothing that was there has turned. Condition: the number is a uint64's (0 to 2^64 - 1).
-/
import Derived.Test.YtiaddijibaclkaaNum
import Derived.Test.YtiaddijibaclkaaRows
import Derived.WalkKit
import Derived.Laws.BytesArg
import Derived.Lib.BufferRead
namespace Go.Proofs.Ytiaddijibaclkaa.PCode
open Go.RowKit

theorem info5 : (Try.prog.info? 5).map (fun i => (i.zero, i.size, i.bytes)) = some (some (.int .u8 0), 1, 1) := by kernel_rfl

def intOf : Value → Int | .int _ q => q | _ => 0

/- string(b) of a row that the call owns -/
theorem str_own {w : World} {base n : Nat} {v : Value} {l : List UInt8} (h : w.ownsRow base 5 1 v n (Lib.byteCells l)) :
    ∀ W : World, (∀ a, W.cell? a = w.cell? a) → (convert 95 9 v).run Try.prog W = .ok (.string ⟨l.toArray⟩) W := by
  intro W hW
  have hl : l.length = n := by have := h.1; rw [Lib.byteCells_length] at this; omega
  rcases h.2 with ⟨rfl, h0⟩ | ⟨g, cap, cur, rfl, _, hg, _, _, _, htake⟩
  · subst h0
    have : l = [] := List.eq_nil_of_length_eq_zero hl
    subst this
    exact Lib.run_convert_nil_bytes W 95 9 5 0 Try.underlying95 Try.underlying5 Try.underlying9
  · subst hl
    exact run_convert_bytes_back W 95 9 5 ⟨g, 0, none⟩ cap l Try.underlying95 Try.underlying5 Try.underlying9 (fun j hj => by
      rw [hW]; exact Lib.bytes_of_row hg (by simpa using htake) j hj)

theorem news_one (wr : World) (t : TypeId) (m : Nat) (v : Value) (h : v = .int .u8 ((UInt8.ofNat m).toNat : Int)) :
    ∀ j u, (Lib.byteCells [UInt8.ofNat m])[j]? = some u → (wr.alloc (.cells #[v] t)).cell? ((⟨wr.heap.size, 0, none⟩ : Addr).add j) = some u := by
  intro j u hj
  match j, hj with
  | 0, hj =>
    simp [Lib.byteCells] at hj
    subst hj; subst h
    simp [Addr.add]

theorem news_cell (l : List UInt8) : ∀ u ∈ Lib.byteCells l, u.oneCell' = true := by
  intro u hu
  simp only [Lib.byteCells, List.mem_map] at hu
  obtain ⟨b, _, rfl⟩ := hu
  rfl

theorem byteCells_snoc (l k : List UInt8) : Lib.byteCells l ++ Lib.byteCells k = Lib.byteCells (l ++ k) := by simp [Lib.byteCells]

set_option maxRecDepth 100000 in
set_option maxHeartbeats 1000000 in
theorem putNat_any (n : Nat) (w : World) (hn : n < 18446744073709551616) :
    Calls Try.prog 16 #[.int .u64 (n : Int)] w fun e w' => e = .returned (.string ⟨(Nb.natB n).toArray⟩) ∧ Below w.heap.size w w' := by
  obtain ⟨i0, hi, hz0, hz1, hz2⟩ := info_parts info5
  go_enter Try.func16, Try.ntmps16
  go_wp2
  go_loopw [0, 3] (fun x v wr => ∃ (m : Nat) (l : List UInt8), m ≤ n ∧ x = .int .u64 (m : Int) ∧ wr.ownsRow w.heap.size 5 1 v l.length (Lib.byteCells l) ∧ Nb.natB n = l ++ Nb.natB m ∧ Below w.heap.size w wr)
    (fun x _ _ => (intOf x).toNat)
  case atStart => exact ⟨n, [], Nat.le_refl _, rfl, World.ownsRow_nil _ _ _ _, rfl, Below.refl _ _⟩
  case round =>
    obtain ⟨m, l, hm, rfl, hown, heq, hbel⟩ := hrel
    have hlen : l.length ≤ 10 := by
      have h1 := Nb.natB_len10 n hn
      rw [heq, List.length_append] at h1; omega
    have HE : Hid (Nb.natB n = l ++ Nb.natB m) := heq
    clear heq
    by_cases hlt : m < 128
    · have hge : decide ((128 : Int) ≤ (m : Int)) = false := by simp; omega
      go_wp2_with (at_builtin; refine wpList_append_own _ rfl _ _ 95 rfl w.heap.size 5 i0 (.int .u8 0) 1 1 Try.underlying95 hi hz0 hz1 hz2 rfl (by decide) _ _ _ rfl (hown.alloc _) ⟨wr.heap.size, 0, none⟩ 1 1 (Lib.byteCells [UInt8.ofNat m]) rfl rfl ?c1 ?c2 ?c3 ?c4 ?c5 ?_)
      case c1 => exact news_one wr 5 m (.int .u8 (m : Int)) (by rw [Nb.toNat_of m (by omega)])
      case c2 => exact news_cell _
      case c3 => unfold maxLen; omega
      case c4 => omega
      case c5 => have := hbel.size; simp; omega
      · intro v' w1 hown' hgrow _
        rw [byteCells_snoc] at hown'
        have hs := str_own hown' w1 (fun _ => rfl)
        have hb1 : Below w.heap.size w w1 := (hbel.alloc hbel.size _).grown hgrow (by have := hbel.size; simp; omega) (fun k hk => (hown.lt k hk).1)
        have HF : Hid (Nb.natB n = l ++ [UInt8.ofNat m]) := by show _ = _; rw [HE.out, Nb.natB_lt hlt]
        clear hown' hgrow hown hbel HE
        go_wp2
        go_ret
        exact ⟨by rw [HF.out]; rfl, hb1⟩
    · have hge : decide ((128 : Int) ≤ (m : Int)) = true := by simp; omega
      have hsm : m / 128 ≤ n := by omega
      go_wp2_with (at_builtin; refine wpList_append_own _ rfl _ _ 95 rfl w.heap.size 5 i0 (.int .u8 0) 1 1 Try.underlying95 hi hz0 hz1 hz2 rfl (by decide) _ _ _ rfl (hown.alloc _) ⟨wr.heap.size, 0, none⟩ 1 1 (Lib.byteCells [UInt8.ofNat (m % 128 + 128)]) rfl rfl ?d1 ?d2 ?d3 ?d4 ?d5 ?_)
      case d1 => exact news_one wr 5 (m % 128 + 128) _ (by rw [Nb.toNat_of _ (by omega)]; congr 1)
      case d2 => exact news_cell _
      case d3 => unfold maxLen; omega
      case d4 => omega
      case d5 => have := hbel.size; simp; omega
      · intro v' w1 hown' hgrow _
        rw [byteCells_snoc] at hown'
        have hb1 : Below w.heap.size w w1 := (hbel.alloc hbel.size _).grown hgrow (by have := hbel.size; simp; omega) (fun k hk => (hown.lt k hk).1)
        have HF : Hid (Nb.natB n = (l ++ [UInt8.ofNat (m % 128 + 128)]) ++ Nb.natB (m / 128)) := by show _ = _; rw [HE.out, Nb.natB_ge hlt, List.append_assoc]; rfl
        have HO : Hid (w1.ownsRow w.heap.size 5 1 v' (l ++ [UInt8.ofNat (m % 128 + 128)]).length (Lib.byteCells (l ++ [UInt8.ofNat (m % 128 + 128)]))) := by show World.ownsRow _ _ _ _ _ _ _; simpa using hown'
        clear hown' hgrow hown hbel HE
        go_wp2
        go_roundw
        case rel => exact ⟨m / 128, _, hsm, by go_num, HO.out, HF.out, hb1⟩
        case measure => simp [intOf]; omega
end Go.Proofs.Ytiaddijibaclkaa.PCode
