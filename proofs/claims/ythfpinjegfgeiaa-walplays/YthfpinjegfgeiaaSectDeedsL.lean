/- Lists of Bools and lists of deeds that are handed in: what their reading says of the cells. -/
import Derived.Test.YthfpinjegfgeiaaSectCrash
import Derived.Deep.Grids
namespace Go.Proofs.Ythfpinjegfgeiaa
open Go Go.RowKit Go.Deep
set_option maxRecDepth 100000

structure Dd where
  kind : Int
  n : Int
  text : ByteArray
  pa : Option Addr
  pl : Nat
  pc : Nat
def DeedsAt (w : World) (da : Option Addr) (X : List Dd) : Prop := X ≠ [] → ∃ db off, da = some ⟨db, off, none⟩ ∧ ∀ j x, X[j]? = some x →
  w.cell? ⟨db, off + j * 4, none⟩ = some (.int .i64 x.kind) ∧ w.cell? ⟨db, off + j * 4 + 1, none⟩ = some (.int .i64 x.n) ∧ w.cell? ⟨db, off + j * 4 + 2, none⟩ = some (.string x.text) ∧ w.cell? ⟨db, off + j * 4 + 3, none⟩ = some (.slice x.pa x.pl x.pc)

section
variable {H : Type} {enc : TypeId × Value → H} {W : World}

theorem plain_of_cell {w : World} {a : Addr} {v : Value} (h : w.cell? a = some v) : a = ⟨a.block, a.off, none⟩ := by
  obtain ⟨b, o, s⟩ := a
  cases s with
  | none => rfl
  | some x =>
    unfold World.cell? at h
    split at h <;> simp at h

theorem cellsB : Try.prog.cellsOf 4 = 1 := by kernel_rfl
theorem cellsD : Try.prog.cellsOf 51 = 4 := by kernel_rfl
theorem bytesD : Try.prog.bytesOf 51 = 56 := by kernel_rfl

theorem bools_open {n : Nat} {cs : List Value} {x : DataW H × List MemPlace} (h : DataW.trod enc Try.prog W 0 (fun _ => true) true n 49 cs = some x) :
    ∃ ka K kc, cs = [.slice ka (List.length K) kc] ∧ KeepAt W ka K := by
  rcases open_bools Try.underlying49 Try.underlying4 cellsB h with ⟨rfl, _⟩ | ⟨a, len, cap, B, rfl, _, hl, _, _, hc⟩
  · exact ⟨none, [], 0, rfl, fun hne => absurd rfl hne⟩
  · refine ⟨some a, (List.range len).map B, cap, by simp, fun hne => ?_⟩
    have hpos : 0 < len := by
      rcases Nat.eq_zero_or_pos len with e | e
      · subst e; exact absurd rfl hne
      · exact e
    have h0 := hc 0 (by omega)
    have ea := plain_of_cell (by simpa [Addr.add] using h0)
    refine ⟨a.block, a.off, by rw [← ea], fun j b hj => ?_⟩
    rw [List.getElem?_map] at hj
    cases hr : (List.range len)[j]? with
    | none => rw [hr] at hj; cases hj
    | some k =>
      rw [hr] at hj
      have hk : k = j ∧ j < len := by
        have := List.getElem?_eq_some_iff.1 hr
        obtain ⟨h1, h2⟩ := this
        simp at h1 h2
        exact ⟨h2.symm, h1⟩
      obtain ⟨rfl, hk⟩ := hk
      simp at hj
      subst hj
      have := hc k (by omega)
      rw [ea, Addr.add_mid] at this
      exact this

theorem deed_open {n : Nat} {cs : List Value} {x : DataW H × List MemPlace} (h : DataW.trod enc Try.prog W 0 (fun _ => true) true n 51 cs = some x) :
    ∃ d : Dd, cs = [.int .i64 d.kind, .int .i64 d.n, .string d.text, .slice d.pa d.pl d.pc] ∧ d.n ≤ 9223372036854775807 ∧ ∃ K, d.pl = List.length K ∧ KeepAt W d.pa K := by
  obtain ⟨xs, m, _, _, hl, hlen, hf⟩ := DataW.trod_struct Try.underlying51 h
  rw [cellsD] at hl
  match cs, hl with
  | [c0, c1, c2, c3], _ =>
    match xs, hlen with
    | [y0, y1, y2, y3], _ =>
      have f0 := hf 0 _ rfl
      have f1 := hf 1 _ rfl
      have f2 := hf 2 _ rfl
      have f3 := hf 3 _ rfl
      simp only [List.getElem?_cons_zero, List.getElem?_cons_succ] at f0 f1 f2 f3
      obtain ⟨k, e0, _, _⟩ := DataW.trod_int Try.underlying3 f0
      obtain ⟨v, e1, _, wf⟩ := DataW.trod_int Try.underlying3 f1
      obtain ⟨s, e2, _, _⟩ := DataW.trod_string Try.underlying9 f2
      obtain ⟨ka, K, kc, e3, hK⟩ := bools_open f3
      refine ⟨⟨k, v, s, ka, K.length, kc⟩, ?_, ?_, K, rfl, hK⟩
      · injection e0 with e0 _
        injection e1 with e1 _
        injection e2 with e2 _
        injection e3 with e3 _
        rw [e0, e1, e2, e3]
      · have : v ≤ 9223372036854775807 := by
          simp only [Lit.wf, Bool.and_eq_true, decide_eq_true_eq] at wf
          have h2 : v ≤ 9223372036854775807 := wf.2
          exact h2
        exact this

theorem deeds_open {n : Nat} {cs : List Value} {x : DataW H × List MemPlace} (h : DataW.trod enc Try.prog W 0 (fun _ => true) true n 42 cs = some x) :
    ∃ da X dc, cs = [.slice da (List.length X) dc] ∧ DeedsAt W da X ∧ (∀ x ∈ X, x.n ≤ 9223372036854775807 ∧ ∃ K, x.pl = List.length K ∧ KeepAt W x.pa K) ∧ (X = [] ∨ ∃ elems spare, x.1 = .slice elems spare ∧ elems.length = List.length X) := by
  rcases open_slice Try.underlying42 h with ⟨rfl, _⟩ | ⟨a, len, cap, m, n', D, Pl, rfl, _, hl, _, hm, hx, hc⟩
  · exact ⟨none, [], 0, rfl, fun hne => absurd rfl hne, by simp, .inl rfl⟩
  · simp only [if_true] at hm
    rw [cellsD] at hc
    have hin : Inhabited Dd := ⟨⟨0, 0, ⟨#[]⟩, none, 0, 0⟩⟩
    obtain ⟨V, hV⟩ := choose_lt (α := Dd) (n := m) (p := fun i d => (∀ j, j < 4 → W.cell? ((a.add (i * 4)).add j) = [Value.int .i64 d.kind, .int .i64 d.n, .string d.text, .slice d.pa d.pl d.pc][j]?) ∧ d.n ≤ 9223372036854775807 ∧ ∃ K, d.pl = List.length K ∧ KeepAt W d.pa K) (fun i hi => by
      obtain ⟨cs', h1, h2⟩ := hc i hi
      obtain ⟨d, rfl, hb⟩ := deed_open h2
      exact ⟨d, (World.cells?_some h1).2.2, hb⟩)
    refine ⟨some a, (List.range len).map V, cap, by simp, fun hne => ?_, ?_, .inr ⟨_, _, by rw [hx], by simp⟩⟩
    · have hpos : 0 < len := by
        rcases Nat.eq_zero_or_pos len with e | e
        · subst e; exact absurd rfl hne
        · exact e
      have h0 := (hV 0 (by omega)).1 0 (by omega)
      have ea := plain_of_cell (by simpa [Addr.add] using h0)
      refine ⟨a.block, a.off, by rw [← ea], fun j d hj => ?_⟩
      rw [List.getElem?_map] at hj
      cases hr : (List.range len)[j]? with
      | none => rw [hr] at hj; cases hj
      | some k =>
        rw [hr] at hj
        obtain ⟨h1, h2⟩ := List.getElem?_eq_some_iff.1 hr
        simp at h1 h2
        subst h2
        simp at hj
        subst hj
        have hc := (hV j (by omega)).1
        rw [ea, Addr.add_mid] at hc
        have c0 := hc 0 (by omega)
        have c1 := hc 1 (by omega)
        have c2 := hc 2 (by omega)
        have c3 := hc 3 (by omega)
        rw [Addr.add_mid] at c0 c1 c2 c3
        exact ⟨c0, c1, c2, c3⟩
    · intro d hd
      obtain ⟨i, hi, rfl⟩ := List.mem_map.1 hd
      exact (hV i (by have := List.mem_range.1 hi; omega)).2
end

end Go.Proofs.Ythfpinjegfgeiaa
