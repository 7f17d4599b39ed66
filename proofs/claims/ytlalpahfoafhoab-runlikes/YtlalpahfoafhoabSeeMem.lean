/- Rows of pairs of ints in memory, whatever the pair's type (Reads' answers, names): how such a row is made, what a store and an append leave; arrays of twelve and of twenty, and a view, as one value. -/
import Derived.Test.YtlalpahfoafhoabRunPA
import Derived.Test.YtlalpahfoafhoabSeeNum
namespace Go.Proofs.Ytlalpahfoafhoab.PSee
open Go Go.RowKit PPool PGraph PRun
set_option maxRecDepth 100000

theorem seen_info : (Try.prog.info? 95).map (fun i => (i.zero, i.size, i.bytes)) = some (some (.agg #[.int .i64 0, .int .i64 0]), 2, 16) := by kernel_rfl
theorem name_info : (Try.prog.info? 151).map (fun i => (i.zero, i.size, i.bytes)) = some (some (.agg #[.int .i64 0, .int .i64 0]), 2, 16) := by kernel_rfl

/-- A row of pairs of one's own. -/
def OwnPr (T : TypeId) (w : World) (base : Nat) (v : Value) (X : List Gr.Ed) : Prop := w.ownsRow base T 2 v X.length (X.flatMap sc)
section
variable {T : TypeId}
theorem OwnPr.nil (w : World) (base : Nat) : OwnPr T w base (.slice none 0 0) [] := World.ownsRow_nil _ _ _ _
theorem OwnPr.keep {w w' : World} {base : Nat} {v : Value} {X : List Gr.Ed} (h : OwnPr T w base v X) (hb : ∀ g, v.ownBlock = some g → w'.heap[g]? = w.heap[g]?) : OwnPr T w' base v X := ownsRow_of_block h hb
theorem OwnPr.below {w w' : World} {base : Nat} {v : Value} {X : List Gr.Ed} (h : OwnPr T w base v X) (hb : Below w.heap.size w w') : OwnPr T w' base v X :=
  h.keep fun g hg => hb.block g (h.lt g hg).2
theorem OwnPr.at_ {w : World} {base : Nat} {v : Value} {X : List Gr.Ed} (h : OwnPr T w base v X) : ∃ a c, v = .slice a X.length c ∧ PgAt w a X ∧ (∀ q, a = some q → base ≤ q.block) ∧ X.length ≤ c ∧ c ≤ maxLen := by
  rcases h.2 with ⟨rfl, h0⟩ | ⟨g, cap, cur, hv, hb, hg, h1, h2, h3, h4⟩
  · have : X = [] := List.eq_nil_of_length_eq_zero h0
    subst this
    exact ⟨none, 0, rfl, PgAt.nil _ _, (fun q hq => by cases hq), Nat.le_refl _, Nat.zero_le _⟩
  · refine ⟨_, cap, hv, fun j x hj => ⟨g, 0, rfl, ?_, ?_⟩, fun q hq => ?_, h1, h2⟩
    · have e := flat_at (enc := sc) (c := 2) X (fun x _ => sc_len x) j x hj 0 (.int .i64 x.f) rfl
      rw [← h4, List.getElem?_take] at e
      split at e
      · rw [cell_of_row w g _ cur _ _ hg, Nat.zero_add]
        simpa using e
      · cases e
    · have e := flat_at (enc := sc) (c := 2) X (fun x _ => sc_len x) j x hj 1 (.int .i64 x.t) rfl
      rw [← h4, List.getElem?_take] at e
      split at e
      · rw [cell_of_row w g _ cur _ _ hg, Nat.zero_add]
        simpa using e
      · cases e
    · cases hq; exact hb
theorem OwnPr.lower {w : World} {base base' : Nat} {v : Value} {X : List Gr.Ed} (h : OwnPr T w base v X) (hb : base' ≤ base) : OwnPr T w base' v X := by
  refine ⟨h.1, ?_⟩
  rcases h.2 with e | ⟨g, cap, cur, hv, hg, r⟩
  · exact .inl e
  · exact .inr ⟨g, cap, cur, hv, Nat.le_trans hb hg, r⟩
/-- A pair laid over another one. -/
theorem OwnPr.set {w : World} {base g n c : Nat} {X : List Gr.Ed} (h : OwnPr T w base (.slice (some ⟨g, 0, none⟩) n c) X) (k : Nat) (hk : k < X.length) (x : Gr.Ed) :
    OwnPr T (w.setCells g (k * 2) (sc x)) base (.slice (some ⟨g, 0, none⟩) n c) (X.set k x) := by
  rcases h.2 with ⟨e, _⟩ | ⟨g', cap, cur, hv, hg, hh, h1, h2, h3, h4⟩
  · cases e
  · injection hv with e1 e2 e3
    have eg : g = g' := by injection e1 with e1; injection e1
    subst eg; subst e2; subst e3
    have hfit : k * 2 + (sc x).length ≤ cur.size := by rw [sc_len, h3]; omega
    rw [setCells_eq_setRow Try.prog w g (k * 2) cur _ (sc x) hh hfit (sc_one x)]
    refine ⟨by rw [pg_len], .inr ⟨g, c, _, by rw [List.length_set], hg, setRow_heap w g cur _ _ _ hh, by rw [List.length_set]; exact h1, h2, ?_, ?_⟩⟩
    · rw [List.size_toArray, List.length_append, List.length_append, List.length_take, List.length_drop, Array.length_toList]
      omega
    · have e := flat_set (enc := sc) (c := 2) X (fun x _ => sc_len x) k x hk (sc_len x)
      rw [e, ← h4, List.length_set]
      have l0 : cur.toList.length = c * 2 := by rw [Array.length_toList, h3]
      have s2 : (sc x).length = 2 := rfl
      show List.take _ (List.take (k * 2) cur.toList ++ sc x ++ List.drop (k * 2 + (sc x).length) cur.toList) = _
      rw [s2, List.take_take, Nat.min_eq_left (by omega), List.take_append, List.take_of_length_le (by rw [List.length_append, List.length_take, s2]; omega), List.drop_take]
      congr 2
      rw [List.length_append, List.length_take, s2]
      omega
theorem OwnPr.put {w : World} {base g n c : Nat} {X : List Gr.Ed} (h : OwnPr T w base (.slice (some ⟨g, 0, none⟩) n c) X) (k : Nat) (hk : k < X.length) (u t : Int) :
    OwnPr T ((w.setCell ⟨g, k * 2, none⟩ (.int .i64 u)).setCell ⟨g, k * 2 + 1, none⟩ (.int .i64 t)) base (.slice (some ⟨g, 0, none⟩) n c) (X.set k ⟨u, t⟩) := h.set k hk ⟨u, t⟩
theorem OwnPr.grows {w' : World} {base : Nat} {v' : Value} {X : List Gr.Ed} {x : Gr.Ed} (h : w'.ownsRow base T 2 v' (X.length + 1) (X.flatMap sc ++ sc x)) : OwnPr T w' base v' (X ++ [x]) := by
  unfold OwnPr
  rw [List.length_append, List.flatMap_append]
  simpa using h
theorem OwnPr.pg {w : World} {base : Nat} {a : Option Addr} {n c : Nat} {X : List Gr.Ed} (h : OwnPr T w base (.slice a n c) X) : PgAt w a X := by
  obtain ⟨a', c', e, hp, _⟩ := h.at_
  have ea : a = a' := by injection e
  rw [ea]; exact hp
theorem OwnPr.hi {w : World} {base : Nat} {a : Option Addr} {n c : Nat} {X : List Gr.Ed} (h : OwnPr T w base (.slice a n c) X) : ∀ q, a = some q → q.block < w.heap.size := by
  intro q hq
  rcases h.2 with ⟨e, _⟩ | ⟨g, cap, cur, hv, hb, hg, _⟩
  · injection e with e; rw [hq] at e; cases e
  · injection hv with e
    rw [hq] at e
    injection e with e
    subst e
    exact (Array.getElem?_eq_some_iff.1 hg).1
theorem OwnPr.fz {w : World} {base g n c : Nat} {X : List Gr.Ed} (h : OwnPr T w base (.slice (some ⟨g, 0, none⟩) n c) X) (i : Nat) : w.frozen? ⟨g, i, none⟩ = false := by
  rcases h.2 with ⟨e, _⟩ | ⟨g', cap, cur, hv, hg, hh, r⟩
  · cases e
  · injection hv with e1 e2 e3
    have eg : g = g' := by injection e1 with e1; injection e1
    subst eg
    simp [World.frozen?, hh]
theorem OwnPr.cells {w : World} {base g n c : Nat} {X : List Gr.Ed} (h : OwnPr T w base (.slice (some ⟨g, 0, none⟩) n c) X) {k : Nat} {x : Gr.Ed} (hx : X[k]? = some x) :
    w.cell? ⟨g, k * 2, none⟩ = some (.int .i64 x.f) ∧ w.cell? ⟨g, k * 2 + 1, none⟩ = some (.int .i64 x.t) := by
  obtain ⟨b, o, ea, d1, d2⟩ := h.pg k x hx
  rcases h.2 with ⟨e', _⟩ | ⟨g', cap, cur, hv, hg, hh, r⟩
  · cases e'
  · injection ea with ea
    injection ea with e1 e2
    subst e1; subst e2
    rw [Nat.zero_add] at d1 d2
    exact ⟨d1, d2⟩
theorem OwnPr.ge {w : World} {base g n c : Nat} {X : List Gr.Ed} (h : OwnPr T w base (.slice (some ⟨g, 0, none⟩) n c) X) : base ≤ g ∧ g < w.heap.size := h.lt g rfl
theorem OwnPr.made (w : World) (X : List Gr.Ed) (hn : X.length ≤ maxLen) :
    OwnPr T (w.alloc (.cells (madeCells z2 (X.length * 2)) T)) w.heap.size (.slice (some ⟨w.heap.size, 0, none⟩) X.length X.length) (half X 0) := by
  have e : half X 0 = List.replicate X.length Gr.zero' := by unfold half; simp
  rw [e, made_half]
  refine ⟨by rw [pg_len], .inr ⟨w.heap.size, X.length, _, by rw [List.length_replicate], Nat.le_refl _, heap_alloc_new w _, by rw [List.length_replicate]; exact Nat.le_refl _, hn, ?_, ?_⟩⟩
  · rw [List.size_toArray, pg_len, List.length_replicate]
  · rw [List.take_of_length_le (by rw [pg_len]; exact Nat.le_refl _)]
end

/-! ### Arrays as one value -/
/-- The cells of an array of twenty ints. -/
def iA (f : Nat → Int) : Array Value := ((List.range 20).map fun t => Value.int .i64 (f t)).toArray
theorem iA_size (f : Nat → Int) : (iA f).size = 20 := by simp [iA]
theorem iA_at (f : Nat → Int) {t : Nat} (ht : t < 20) : (iA f)[t]? = some (.int .i64 (f t)) := by simp [iA, ht]
theorem iA_set (f : Nat → Int) (t : Nat) (c : Int) : (iA f).setIfInBounds t (.int .i64 c) = iA fun s => if s = t then c else f s := by
  apply Array.ext_getElem?
  intro j
  rw [Array.getElem?_setIfInBounds]
  by_cases hj : j < 20
  · rw [iA_at _ hj, iA_at _ hj]
    by_cases e : t = j
    · subst e
      rw [if_pos rfl, if_pos (by rw [iA_size]; exact hj), if_pos rfl]
    · rw [if_neg e, if_neg (fun h => e h.symm)]
  · have h1 : ∀ F, (iA F)[j]? = none := fun F => Array.getElem?_eq_none (by rw [iA_size]; omega)
    rw [h1, h1]
    split
    · rw [if_neg (by rw [iA_size]; omega)]
    · rfl
theorem twenty_info : (Try.prog.info? 90).map (fun i => (i.zero, i.size)) = some (some (.agg (iA fun _ => 0)), 20) := by kernel_rfl
def loadI (v : Value) : Sem Value := Instr.loadAt 90 v
theorem loadI_pre (v : Value) : Instr.loadAt 90 v = loadI v := rfl
theorem run_loadI {W : World} {b : Nat} {f : Nat → Int} (h : ArrAt W b (iA f)) : (loadI (.pointer (some ⟨b, 0, none⟩))).run Try.prog W = .ok (.agg (iA f)) W := by
  have := run_loadAt_mid (P := Try.prog) W b 0 90 (iA f).toList _ h.range Try.underlying90 rfl (by rw [Array.length_toList, iA_size]; exact (zero_of_info twenty_info).2)
  rwa [Array.toArray_toList] at this
def storeI (v x : Value) : Sem Unit := Instr.storeAt 90 v x
theorem storeI_pre (v x : Value) : Instr.storeAt 90 v x = storeI v x := rfl
theorem iA_one (f : Nat → Int) : (iA f).all (·.oneCell') = true := by
  refine Array.all_eq_true_iff_forall_mem.2 fun v hv => ?_
  simp only [iA, List.mem_toArray, List.mem_map] at hv
  obtain ⟨t, _, rfl⟩ := hv
  rfl
theorem run_storeI {W : World} {b : Nat} {f0 f : Nat → Int} (h : ArrAt W b (iA f0)) : (storeI (.pointer (some ⟨b, 0, none⟩)) (.agg (iA f))).run Try.prog W = .ok () (W.setRow b (iA f)) := by
  obtain ⟨T, h⟩ := h
  have := run_storeVar_row (P := Try.prog) W b T 90 (iA f0) (iA f) h (by rw [iA_size]; exact (zero_of_info twenty_info).2) (by rw [iA_size, iA_size]) (iA_one f)
  unfold storeI
  simp only [Instr.storeAt, Instr.sureAddr, Sem.run_bind, Sem.run_pure, Result.andThen_ok, this]
theorem run_index_iA (W : World) (f : Nat → Int) {k : Nat} (hk : k < 20) : (Instr.index 90 (.agg (iA f)) (.int .i64 (k : Int))).run Try.prog W = .ok (.int .i64 (f k)) W := by
  have h0 : (0 : Int) ≤ (k : Int) ∧ (k : Int) < ((20 : Nat) : Int) := by omega
  simp only [Instr.index, asIntOf, Sem.run_bind, Sem.run_pure, Result.andThen_ok, run_underlying Try.underlying90]
  rw [if_pos h0]
  have hs : (sizeOf 3).run Try.prog W = .ok 1 W := by kernel_rfl
  have ha : (isAgg 3).run Try.prog W = .ok false W := by kernel_rfl
  simp only [part, Sem.run_bind, Result.andThen_ok, hs, ha, Int.toNat_natCast, Nat.mul_one]
  simp only [Bool.false_eq_true, if_false, iA_at f hk, Sem.run_pure]
/-- What an array of twelve bools holds, as a whole. -/
def loadB (v : Value) : Sem Value := Instr.loadAt 130 v
theorem loadB_pre (v : Value) : Instr.loadAt 130 v = loadB v := rfl
theorem run_loadB {W : World} {b : Nat} {R : Nat → Bool} (h : ArrAt W b (bA R)) : (loadB (.pointer (some ⟨b, 0, none⟩))).run Try.prog W = .ok (.agg (bA R)) W := by
  have := run_loadAt_mid (P := Try.prog) W b 0 130 (bA R).toList _ h.range Try.underlying130 rfl (by rw [Array.length_toList, bA_size]; exact (zero_of_info bools_info).2)
  rwa [Array.toArray_toList] at this
def storeB (v x : Value) : Sem Unit := Instr.storeAt 130 v x
theorem storeB_pre (v x : Value) : Instr.storeAt 130 v x = storeB v x := rfl
theorem bA_one (R : Nat → Bool) : (bA R).all (·.oneCell') = true := by
  refine Array.all_eq_true_iff_forall_mem.2 fun v hv => ?_
  simp only [bA, List.mem_toArray, List.mem_map] at hv
  obtain ⟨t, _, rfl⟩ := hv
  rfl
theorem run_storeB {W : World} {b : Nat} {R0 R : Nat → Bool} (h : ArrAt W b (bA R0)) : (storeB (.pointer (some ⟨b, 0, none⟩)) (.agg (bA R))).run Try.prog W = .ok () (W.setRow b (bA R)) := by
  obtain ⟨T, h⟩ := h
  have := run_storeVar_row (P := Try.prog) W b T 130 (bA R0) (bA R) h (by rw [bA_size]; exact (zero_of_info bools_info).2) (by rw [bA_size, bA_size]) (bA_one R)
  unfold storeB
  simp only [Instr.storeAt, Instr.sureAddr, Sem.run_bind, Sem.run_pure, Result.andThen_ok, this]
theorem bA_set (R : Nat → Bool) (t : Nat) (c : Bool) : (bA R).setIfInBounds t (.bool c) = bA fun s => if s = t then c else R s := by
  apply Array.ext_getElem?
  intro j
  rw [Array.getElem?_setIfInBounds]
  by_cases hj : j < 12
  · rw [bA_at _ hj, bA_at _ hj]
    by_cases e : t = j
    · subst e
      rw [if_pos rfl, if_pos (by rw [bA_size]; exact hj), if_pos rfl]
    · rw [if_neg e, if_neg (fun h => e h.symm)]
  · have h1 : ∀ F, (bA F)[j]? = none := fun F => Array.getElem?_eq_none (by rw [bA_size]; omega)
    rw [h1, h1]
    split
    · rw [if_neg (by rw [bA_size]; omega)]
    · rfl
/-- An array, or a struct, as the result; as the first of two. -/
theorem ArrAt.result1 {w : World} {b : Nat} {A : Array Value} {T : TypeId} {d : TypeDesc} (h : ArrAt w b A) {fn : Func} {p : Tmp} (hf : fn.results = #[.cell p T]) {tmps : Array Value} (hp : tmps.getD p undef = .pointer (some ⟨b, 0, none⟩))
    (hu : Try.prog.underlying T = some d) (hd : d.isRow = true) (hi : (Try.prog.info? T).map (·.size) = some A.size) : (results fn tmps).run Try.prog w = .ok (.agg A) w := by
  obtain ⟨T', h⟩ := h
  exact results_cell_row hf tmps w b T' _ _ _ hp h hu (by cases d <;> first | rfl | cases hd) hi
theorem ArrAt.result2 {w : World} {b : Nat} {A : Array Value} {T : TypeId} {d : TypeDesc} (h : ArrAt w b A) {fn : Func} {p u : Tmp} (hf : fn.results = #[.cell p T, .tmp u]) {tmps : Array Value} (hp : tmps.getD p undef = .pointer (some ⟨b, 0, none⟩))
    (hu : Try.prog.underlying T = some d) (hd : d.isRow = true) (hi : (Try.prog.info? T).map (·.size) = some A.size) {v : Value} (hv : tmps.getD u undef = v) :
    (results fn tmps).run Try.prog w = .ok (.tuple #[.agg A, v]) w := by
  obtain ⟨T', h⟩ := h
  rw [results_cell_tmp hf, hp, hv]
  simp only [asAddr, Sem.run_pure, Result.andThen_ok, run_loadVar_row w b T' T A (0, 0) d h hu (by cases d <;> first | rfl | cases hd) hi]

/-- The cells of a view: the map, and twenty names. -/
def nA (g : Nat → Gr.Ed) : List Value := (List.range 20).flatMap fun i => sc (g i)
def vA (m : Value) (g : Nat → Gr.Ed) : Array Value := (m :: nA g).toArray
theorem nA_len (g : Nat → Gr.Ed) : (nA g).length = 40 := by
  unfold nA
  rw [flat_len (List.range 20) (c := 2) (fun i _ => sc_len (g i))]
  simp
theorem vA_size (m : Value) (g : Nat → Gr.Ed) : (vA m g).size = 41 := by
  unfold vA
  rw [List.size_toArray, List.length_cons, nA_len]
theorem vA_map (m : Value) (g : Nat → Gr.Ed) : (vA m g)[0]? = some m := rfl
theorem nA_at (g : Nat → Gr.Ed) {i : Nat} (hi : i < 20) : (nA g)[i * 2]? = some (.int .i64 (g i).f) ∧ (nA g)[i * 2 + 1]? = some (.int .i64 (g i).t) := by
  have h1 : (List.range 20)[i]? = some i := by rw [List.getElem?_range hi]
  unfold nA
  have e1 := flat_at (enc := fun i => sc (g i)) (c := 2) (List.range 20) (fun x _ => sc_len (g x)) i i h1 0 (.int .i64 (g i).f) rfl
  have e2 := flat_at (enc := fun i => sc (g i)) (c := 2) (List.range 20) (fun x _ => sc_len (g x)) i i h1 1 (.int .i64 (g i).t) rfl
  exact ⟨e1, e2⟩
theorem vA_at (m : Value) (g : Nat → Gr.Ed) {i : Nat} (hi : i < 20) : (vA m g)[1 + i * 2]? = some (.int .i64 (g i).f) ∧ (vA m g)[1 + i * 2 + 1]? = some (.int .i64 (g i).t) := by
  obtain ⟨e1, e2⟩ := nA_at g hi
  unfold vA
  rw [List.getElem?_toArray, List.getElem?_toArray, show 1 + i * 2 = i * 2 + 1 by omega, show i * 2 + 1 + 1 = (i * 2 + 1) + 1 from rfl, List.getElem?_cons_succ, List.getElem?_cons_succ]
  exact ⟨e1, e2⟩
theorem nA_ext {L : List Value} {g : Nat → Gr.Ed} (hl : L.length = 40) (h : ∀ i, i < 20 → L[i * 2]? = some (.int .i64 (g i).f) ∧ L[i * 2 + 1]? = some (.int .i64 (g i).t)) : L = nA g := by
  apply List.ext_getElem?
  intro j
  by_cases hj : j < 40
  · obtain ⟨h1, h2⟩ := h (j / 2) (by omega)
    obtain ⟨h3, h4⟩ := nA_at g (i := j / 2) (by omega)
    rcases Nat.mod_two_eq_zero_or_one j with e | e
    · rw [show j = j / 2 * 2 by omega, h1, h3]
    · rw [show j = j / 2 * 2 + 1 by omega, h2, h4]
  · rw [List.getElem?_eq_none (by omega), List.getElem?_eq_none (by rw [nA_len]; omega)]
theorem vA_set (m : Value) (g : Nat → Gr.Ed) {i : Nat} (hi : i < 20) (e : Gr.Ed) : ((vA m g).setIfInBounds (1 + i * 2) (.int .i64 e.f)).setIfInBounds (1 + i * 2 + 1) (.int .i64 e.t) = vA m fun k => if k = i then e else g k := by
  have : ((nA g).set (i * 2) (.int .i64 e.f)).set (i * 2 + 1) (.int .i64 e.t) = nA fun k => if k = i then e else g k := by
    refine nA_ext (by rw [List.length_set, List.length_set, nA_len]) fun k hk => ?_
    obtain ⟨h1, h2⟩ := nA_at g hk
    have hl := nA_len g
    by_cases ek : k = i
    · subst ek
      rw [if_pos rfl, List.getElem?_set_ne (by omega), List.getElem?_set_self (by omega), List.getElem?_set_self (by rw [List.length_set]; omega)]
      exact ⟨rfl, rfl⟩
    · rw [if_neg ek, List.getElem?_set_ne (by omega), List.getElem?_set_ne (by omega), List.getElem?_set_ne (by omega), List.getElem?_set_ne (by omega)]
      exact ⟨h1, h2⟩
  unfold vA
  rw [List.setIfInBounds_toArray, List.setIfInBounds_toArray, show 1 + i * 2 = i * 2 + 1 by omega, show i * 2 + 1 + 1 = (i * 2 + 1) + 1 from rfl, List.set_cons_succ, List.set_cons_succ, this]
theorem vA_one (m : Option Nat) (g : Nat → Gr.Ed) : (vA (.map m) g).all (·.oneCell') = true := by
  refine Array.all_eq_true_iff_forall_mem.2 fun v hv => ?_
  simp only [vA, List.mem_toArray, List.mem_cons, nA, List.mem_flatMap] at hv
  rcases hv with rfl | ⟨i, _, hv⟩
  · rfl
  · exact sc_one _ v hv
theorem view_info : (Try.prog.info? 154).map (fun i => (i.zero, i.size)) = some (some (.agg (vA (.map none) fun _ => ⟨0, 0⟩)), 41) := by kernel_rfl
theorem names_info : (Try.prog.info? 152).map (fun i => (i.zero, i.size)) = some (some (.agg (nA fun _ => ⟨0, 0⟩).toArray), 40) := by kernel_rfl
def loadV (v : Value) : Sem Value := Instr.loadAt 154 v
theorem loadV_pre (v : Value) : Instr.loadAt 154 v = loadV v := rfl
theorem run_loadV {W : World} {b : Nat} {m : Value} {g : Nat → Gr.Ed} (h : ArrAt W b (vA m g)) : (loadV (.pointer (some ⟨b, 0, none⟩))).run Try.prog W = .ok (.agg (vA m g)) W := by
  have := run_loadAt_mid (P := Try.prog) W b 0 154 (vA m g).toList _ h.range Try.underlying154 rfl (by rw [Array.length_toList, vA_size]; exact (zero_of_info view_info).2)
  rwa [Array.toArray_toList] at this
def storeV (v x : Value) : Sem Unit := Instr.storeAt 154 v x
theorem storeV_pre (v x : Value) : Instr.storeAt 154 v x = storeV v x := rfl
theorem run_storeV {W : World} {b : Nat} {m0 : Value} {m : Option Nat} {g0 g : Nat → Gr.Ed} (h : ArrAt W b (vA m0 g0)) : (storeV (.pointer (some ⟨b, 0, none⟩)) (.agg (vA (.map m) g))).run Try.prog W = .ok () (W.setRow b (vA (.map m) g)) := by
  obtain ⟨T, h⟩ := h
  have := run_storeVar_row (P := Try.prog) W b T 154 (vA m0 g0) (vA (.map m) g) h (by rw [vA_size]; exact (zero_of_info view_info).2) (by rw [vA_size, vA_size]) (vA_one m g)
  unfold storeV
  simp only [Instr.storeAt, Instr.sureAddr, Sem.run_bind, Sem.run_pure, Result.andThen_ok, this]
def loadN (v : Value) : Sem Value := Instr.loadAt 152 v
theorem loadN_pre (v : Value) : Instr.loadAt 152 v = loadN v := rfl
theorem run_loadN {W : World} {b : Nat} {m : Value} {g : Nat → Gr.Ed} (h : ArrAt W b (vA m g)) : (loadN (.pointer (some ⟨b, 1, none⟩))).run Try.prog W = .ok (.agg (nA g).toArray) W := by
  refine run_loadAt_mid (P := Try.prog) W b 1 152 (nA g) _ (fun j v hv => h.cell ?_) Try.underlying152 rfl (by rw [nA_len]; exact (zero_of_info names_info).2)
  unfold vA
  rw [List.getElem?_toArray, show 1 + j = j + 1 by omega, List.getElem?_cons_succ]
  exact hv
end Go.Proofs.Ytlalpahfoafhoab.PSee
