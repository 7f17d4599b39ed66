/- Names, arrays of names, arrays of ints held against each other: 'true' just if they are alike. Conditions: the names are small, the ints are ints. -/
import Derived.Test.YtlalpahfoafhoabSeeMap
namespace Go.Proofs.Ytlalpahfoafhoab.PSee
open Go Go.RowKit Go.Maps PPool PGraph PRun
set_option maxRecDepth 100000

theorem mapM_some {α β : Type} {f : α → Option β} : ∀ {l : List α}, (∀ x ∈ l, ∃ y, f x = some y) → ∃ ys, l.mapM f = some ys
  | [], _ => ⟨[], rfl⟩
  | x :: l, h => by
    obtain ⟨y, hy⟩ := h x List.mem_cons_self
    obtain ⟨ys, hys⟩ := mapM_some fun z hz => h z (List.mem_cons_of_mem _ hz)
    exact ⟨y :: ys, by rw [List.mapM_cons, hy, hys]; rfl⟩
theorem flat_cut {α β : Type} {enc : α → List β} {c : Nat} : ∀ (X : List α), (∀ x ∈ X, (enc x).length = c) → ∀ (j : Nat) (x : α), X[j]? = some x → ((X.flatMap enc).drop (j * c)).take c = enc x
  | [], _, j, x, h => by simp at h
  | y :: X, hc, 0, x, h => by
    have e : y = x := by simpa using h
    subst e
    have := hc y List.mem_cons_self
    rw [Nat.zero_mul, List.drop_zero, List.flatMap_cons, List.take_append_of_le_length (by omega), List.take_of_length_le (by omega)]
  | y :: X, hc, j + 1, x, h => by
    have hy := hc y List.mem_cons_self
    have := flat_cut X (fun z hz => hc z (List.mem_cons_of_mem _ hz)) j x (by simpa using h)
    rw [List.flatMap_cons, show (j + 1) * c = (enc y).length + j * c by rw [hy, Nat.add_mul]; omega, ← List.drop_drop, List.drop_left]
    exact this
theorem types_more3 : ∃ m, Try.prog.types.size + 1 = m + 3 := ⟨Try.prog.types.size - 2, by have : (2 : Nat) ≤ Try.prog.types.size := of_decide_eq_true (by kernel_rfl); omega⟩
theorem lits_int (m : Nat) {a : Int} (wa : (Lit.int .i64 a).wf = true) : Try.prog.keyLits (m + 1) 3 [.int .i64 a] = some [.int .i64 a] := by
  simp [Program.keyLits, Try.underlying3, wa]
theorem lits_name (m : Nat) {e : Gr.Ed} (h : Small e) : Try.prog.keyLits (m + 2) 151 (sc e) = some [.int .i64 e.f, .int .i64 e.t] := by
  unfold Program.keyLits
  simp only [Try.underlying151, sc]
  rw [if_pos ⟨by rw [name_cells]; rfl, by kernel_rfl⟩]
  simp only [List.mapM_cons, List.mapM_nil]
  simp [int_cells, Program.keyLits, Try.underlying3, (small_wf h).1, (small_wf h).2]
theorem names_cells : Try.prog.cellsOf 152 = 40 := by kernel_rfl
theorem names_keyType : Try.prog.keyType 152 = true := by kernel_rfl
theorem names_key {g : Nat → Gr.Ed} (h : ∀ i, i < 20 → Small (g i)) : ∃ l, keyOf Try.prog 152 (.agg (nA g).toArray) = some l := by
  obtain ⟨m, hm⟩ := types_more3
  unfold keyOf
  simp only [Try.underlying152]
  rw [if_pos (by simp [names_keyType, Value.formed, Try.underlying152, names_cells, nA_len]), hm]
  unfold Program.keyLits
  simp only [Try.underlying152, Value.cells]
  rw [if_pos (by rw [names_cells, nA_len])]
  obtain ⟨ys, hys⟩ := mapM_some (f := fun i => Try.prog.keyLits (m + 2) 151 (((nA g).drop (i * Try.prog.cellsOf 151)).take (Try.prog.cellsOf 151))) (l := List.range 20) fun i hi => by
    have hi := List.mem_range.1 hi
    refine ⟨[.int .i64 (g i).f, .int .i64 (g i).t], ?_⟩
    rw [name_cells]
    have := flat_cut (enc := fun i => sc (g i)) (c := 2) (List.range 20) (fun x _ => sc_len (g x)) i i (by rw [List.getElem?_range hi])
    unfold nA
    rw [this]
    exact lits_name m (h i hi)
  rw [hys]
  exact ⟨_, rfl⟩
theorem names_row : (152 : TypeId) < Try.prog.types.size := of_decide_eq_true (by kernel_rfl)
theorem names_wide : (match Try.prog.underlying 152 with | some (.array _ _) | some (.struct _) => true | _ => false) = true := by kernel_rfl
theorem names_law : Keyed Try.prog 152 := Keyed.of_law (deep_law_laid laid_out (m := 4) (by omega) names_row (by kernel_rfl) names_wide)
theorem nA_inj {g g' : Nat → Gr.Ed} (h : nA g = nA g') : ∀ i, i < 20 → g i = g' i := fun i hi => by
  have h1 := nA_at g hi
  have h2 := nA_at g' hi
  rw [h] at h1
  rw [h1.1, h1.2] at h2
  obtain ⟨e1, e2⟩ := h2
  injection e1 with e1; injection e1 with _ e1
  injection e2 with e2; injection e2 with _ e2
  generalize g i = a at *
  generalize g' i = b at *
  obtain ⟨af, at'⟩ := a
  obtain ⟨bf, bt⟩ := b
  simp only at e1 e2
  rw [e1, e2]
theorem nA_congr {g g' : Nat → Gr.Ed} (h : ∀ i, i < 20 → g i = g' i) : nA g = nA g' := by
  unfold nA
  rw [List.flatMap_def, List.flatMap_def]
  exact congrArg List.flatten (List.map_congr_left fun i hi => by rw [h i (List.mem_range.1 hi)])
/-- Arrays of names. -/
theorem names_eq {g g' : Nat → Gr.Ed} (h : ∀ i, i < 20 → Small (g i)) (h' : ∀ i, i < 20 → Small (g' i)) (w : World) :
    (Op.equalIn 10000 152 (.agg (nA g).toArray) (.agg (nA g').toArray)).run Try.prog w = .ok ((List.range 20).all fun i => decide (g i = g' i)) w := by
  obtain ⟨l, hl⟩ := names_key h
  obtain ⟨l', hl'⟩ := names_key h'
  obtain ⟨r, hr, hi⟩ := run_equal_deep (P := Try.prog) w (m := 4) (by omega) (by kernel_rfl) names_wide hl hl'
  have e : r = ((List.range 20).all fun i => decide (g i = g' i)) := by
    apply Bool.eq_iff_iff.2
    rw [hi, List.all_eq_true]
    constructor
    · rintro rfl i hi
      have := names_law.inj hl hl'
      simp only [Value.agg.injEq] at this
      exact decide_eq_true (nA_inj (congrArg Array.toList this) i (List.mem_range.1 hi))
    · intro H
      have : nA g = nA g' := nA_congr fun i hi => of_decide_eq_true (H i (List.mem_range.2 hi))
      rw [this, hl'] at hl
      injection hl with hl
      exact hl.symm
  rw [← e]
  exact hr
/-- Two names. -/
theorem name_eq {e d : Gr.Ed} (he : Small e) (hd : Small d) (w : World) : (Op.equalIn 10000 151 (nv e) (nv d)).run Try.prog w = .ok (decide (e = d)) w := by
  obtain ⟨r, hr, hi⟩ := run_equal_deep (P := Try.prog) w (m := 3) (by omega) (by kernel_rfl) name_wide (nk_key he) (nk_key hd)
  have e : r = decide (e = d) := by
    apply Bool.eq_iff_iff.2
    rw [hi, decide_eq_true_eq]
    exact ⟨fun h => nk_inj he hd h, fun h => by rw [h]⟩
  rw [← e]
  exact hr
theorem ints_cells : Try.prog.cellsOf 90 = 20 := by kernel_rfl
theorem ints_keyType : Try.prog.keyType 90 = true := by kernel_rfl
theorem ints_key {f : Nat → Int} (h : ∀ i, i < 20 → (Lit.int .i64 (f i)).wf = true) : ∃ l, keyOf Try.prog 90 (.agg (iA f)) = some l := by
  obtain ⟨m, hm⟩ := types_more3
  unfold keyOf
  simp only [Try.underlying90]
  rw [if_pos (by simp [ints_keyType, Value.formed, Try.underlying90, ints_cells, iA_size]), hm]
  unfold Program.keyLits
  simp only [Try.underlying90, Value.cells]
  rw [if_pos (by rw [ints_cells, Array.length_toList, iA_size])]
  obtain ⟨ys, hys⟩ := mapM_some (f := fun i => Try.prog.keyLits (m + 2) 3 (((iA f).toList.drop (i * Try.prog.cellsOf 3)).take (Try.prog.cellsOf 3))) (l := List.range 20) fun i hi => by
    have hi := List.mem_range.1 hi
    refine ⟨[.int .i64 (f i)], ?_⟩
    rw [int_cells]
    have := flat_cut (enc := fun i => [Value.int .i64 (f i)]) (c := 1) (List.range 20) (fun x _ => rfl) i i (by rw [List.getElem?_range hi])
    have e : (iA f).toList = (List.range 20).flatMap fun i => [Value.int .i64 (f i)] := rfl
    rw [e, this]
    exact lits_int (m + 1) (h i hi)
  rw [hys]
  exact ⟨_, rfl⟩
theorem ints_row : (90 : TypeId) < Try.prog.types.size := of_decide_eq_true (by kernel_rfl)
theorem ints_wide : (match Try.prog.underlying 90 with | some (.array _ _) | some (.struct _) => true | _ => false) = true := by kernel_rfl
theorem ints_law : Keyed Try.prog 90 := Keyed.of_law (deep_law_laid laid_out (m := 3) (by omega) ints_row (by kernel_rfl) ints_wide)
/-- Arrays of ints. -/
theorem ints_same {f f' : Nat → Int} (h : ∀ i, i < 20 → (Lit.int .i64 (f i)).wf = true) (h' : ∀ i, i < 20 → (Lit.int .i64 (f' i)).wf = true) (he : ∀ i, i < 20 → f i = f' i) (w : World) :
    (Op.equalIn 10000 90 (.agg (iA f)) (.agg (iA f'))).run Try.prog w = .ok true w := by
  obtain ⟨l, hl⟩ := ints_key h
  obtain ⟨l', hl'⟩ := ints_key h'
  obtain ⟨r, hr, hi⟩ := run_equal_deep (P := Try.prog) w (m := 3) (by omega) (by kernel_rfl) ints_wide hl hl'
  have e : iA f = iA f' := congrArg List.toArray (List.map_congr_left fun i hi => by rw [he i (List.mem_range.1 hi)])
  have : r = true := hi.2 (by rw [e, hl'] at hl; injection hl with hl; exact hl.symm)
  rw [this] at hr
  exact hr
end Go.Proofs.Ytlalpahfoafhoab.PSee
