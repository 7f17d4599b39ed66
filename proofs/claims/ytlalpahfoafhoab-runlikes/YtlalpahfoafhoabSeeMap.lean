/- A map of names to names that a call has made: what it reads as, by a list of pairs; a store, a look-up, its length, a range over it. Conditions: the names are small (whose: -1 to 11; the how many-th: 0 to 200). -/
import Derived.Test.YtlalpahfoafhoabSeeMem
import Derived.Maps.RangeWalk
import Derived.Maps.OwnSet
import Derived.DeepKeys4
namespace Go.Proofs.Ytlalpahfoafhoab.PSee
open Go Go.RowKit Go.Maps PPool PGraph PRun
set_option maxRecDepth 100000

theorem laid_out : laidOutB Try.prog = true := by kernel_rfl
theorem name_row : (151 : TypeId) < Try.prog.types.size := of_decide_eq_true (by kernel_rfl)
theorem name_wide : (match Try.prog.underlying 151 with | some (.array _ _) | some (.struct _) => true | _ => false) = true := by kernel_rfl
theorem name_law : Keyed Try.prog 151 := Keyed.of_law (deep_law_laid laid_out (m := 3) (by omega) name_row (by kernel_rfl) name_wide)
def nv (e : Gr.Ed) : Value := .agg #[.int .i64 e.f, .int .i64 e.t]
structure Small (e : Gr.Ed) : Prop where
  f0 : -1 ≤ e.f
  f1 : e.f < 12
  t0 : 0 ≤ e.t
  t1 : e.t ≤ 200
theorem small_wf {e : Gr.Ed} (h : Small e) : (Lit.int .i64 e.f).wf = true ∧ (Lit.int .i64 e.t).wf = true :=
  ⟨WalkArith.wf_i64 (by have := h.f0; have := h.f1; omega), WalkArith.wf_i64 (by have := h.t0; have := h.t1; omega)⟩
theorem name_keyType : Try.prog.keyType 151 = true := by kernel_rfl
theorem name_cells : Try.prog.cellsOf 151 = 2 := by kernel_rfl
theorem int_cells : Try.prog.cellsOf 3 = 1 := by kernel_rfl
theorem types_more : ∃ m, Try.prog.types.size = m + 1 := ⟨Try.prog.types.size - 1, (Nat.sub_add_cancel (Nat.lt_of_le_of_lt (Nat.zero_le _) name_row)).symm⟩
theorem name_key {a b : Int} (wa : (Lit.int .i64 a).wf = true) (wb : (Lit.int .i64 b).wf = true) : keyOf Try.prog 151 (.agg #[.int .i64 a, .int .i64 b]) = some (.string (keyBytes [.int .i64 a, .int .i64 b])) := by
  obtain ⟨m, hm⟩ := types_more
  unfold keyOf
  simp only [Try.underlying151]
  rw [if_pos (by simp [name_keyType, Value.formed, Try.underlying151, name_cells]), hm]
  unfold Program.keyLits
  simp only [Try.underlying151, Value.cells]
  rw [if_pos ⟨by rw [name_cells]; rfl, by kernel_rfl⟩]
  simp only [List.mapM_cons, List.mapM_nil]
  simp [int_cells, Program.keyLits, Try.underlying3, wa, wb]
/-- The key that a name is. -/
def nk (e : Gr.Ed) : Lit := .string (keyBytes [.int .i64 e.f, .int .i64 e.t])
theorem nk_key {e : Gr.Ed} (h : Small e) : keyOf Try.prog 151 (nv e) = some (nk e) := name_key (small_wf h).1 (small_wf h).2
theorem nv_inj {e d : Gr.Ed} (h : nv e = nv d) : e = d := by
  obtain ⟨ef, et⟩ := e
  obtain ⟨df, dt⟩ := d
  simp only [nv, Value.agg.injEq, Array.mk.injEq, List.cons.injEq, Value.int.injEq, true_and, and_true] at h
  rw [h.1, h.2]
theorem nk_inj {e d : Gr.Ed} (he : Small e) (hd : Small d) (h : nk e = nk d) : e = d :=
  nv_inj (name_law.inj (nk_key he) (by rw [h]; exact nk_key hd))
theorem nk_lit {e : Gr.Ed} (h : Small e) : WideAt.IsKeyLit (nk e) := name_law.key (nk_key h)
/-- How a name reads as an element. -/
def pd (e : Gr.Ed) : DataW Unit := .agg [.lit (.int .i64 e.f), .lit (.int .i64 e.t)]
def pairE (v : Value) : Option (DataW Unit × List MemPlace) := match v with
  | .agg cs => (match cs.toList with
    | [.int .i64 a, .int .i64 b] => some (pd ⟨a, b⟩, [])
    | _ => none)
  | _ => none
theorem pairE_mk (e : Gr.Ed) : pairE (nv e) = some (pd e, []) := rfl
theorem pairE_inv {v : Value} {z : DataW Unit × List MemPlace} (h : pairE v = some z) : ∃ e, v = nv e ∧ z = (pd e, []) := by
  unfold pairE at h
  split at h
  · rename_i cs
    split at h
    · rename_i a b hc
      injection h with h
      refine ⟨⟨a, b⟩, ?_, h.symm⟩
      show Value.agg cs = .agg #[.int .i64 a, .int .i64 b]
      rw [← Array.toArray_toList (xs := cs), hc]
    · cases h
  · cases h
theorem pd_inj {e d : Gr.Ed} (h : pd e = pd d) : e = d := by
  obtain ⟨ef, et⟩ := e
  obtain ⟨df, dt⟩ := d
  simp only [pd, DataW.agg.injEq, List.cons.injEq, DataW.lit.injEq, Lit.int.injEq, true_and, and_true] at h
  rw [h.1, h.2]

/-- The datum by its list of pairs. -/
structure Mp (D : DataW Unit) (L : List (Gr.Ed × Gr.Ed)) : Prop where
  has : ∀ e, Small e → Maps.has D (nk e) = decide (e ∈ L.map Prod.fst)
  at_ : ∀ e d, (e, d) ∈ L → ∀ z, D.atKey (nk e) z = pd d
  size : Maps.size D = L.length
  tidy : Tidy D
  small : ∀ e ∈ L.map Prod.fst, Small e
  only : ∀ kl, Maps.has D kl = true → ∃ e ∈ L.map Prod.fst, kl = nk e
theorem Mp.empty : Mp (.map []) [] := ⟨fun _ _ => rfl, fun _ _ h => by simp at h, rfl, tidy_empty, by simp, fun kl h => by cases h⟩
theorem Mp.add {D : DataW Unit} {L : List (Gr.Ed × Gr.Ed)} (h : Mp D L) {e : Gr.Ed} (he : Small e) (hx : e ∉ L.map Prod.fst) (d : Gr.Ed) : Mp (D.put (nk e) (pd d)) (L ++ [(e, d)]) := by
  have ne : ∀ {y : Gr.Ed}, Small y → y ≠ e → nk y ≠ nk e := fun hy hne h => hne (nk_inj hy he h)
  refine ⟨fun y hy => ?_, fun y u hyu z => ?_, ?_, h.tidy.put (nk_lit he) _, fun y hy => ?_, fun kl hkl => ?_⟩
  · by_cases ey : y = e
    · subst ey
      rw [has_put_same h.tidy.isMap (nk_lit he)]
      simp
    · rw [has_put_other (ne hy ey), h.has y hy]
      simp [ey]
  · rcases List.mem_append.1 hyu with hyu | hyu
    · have hm : y ∈ L.map Prod.fst := List.mem_map.2 ⟨(y, u), hyu, rfl⟩
      have ey : y ≠ e := fun e' => hx (by rw [← e']; exact hm)
      rw [atKey_put_other (ne (h.small y hm) ey)]
      exact h.at_ y u hyu z
    · simp at hyu
      obtain ⟨rfl, rfl⟩ := hyu
      exact atKey_put_same h.tidy.isMap (nk_lit he) _ _
  · have : Maps.has D (nk e) = false := by rw [h.has e he]; simpa using hx
    rw [size_put h.tidy, this, h.size]
    simp
  · rw [List.map_append, List.mem_append] at hy
    rcases hy with hy | hy
    · exact h.small y hy
    · simp at hy; rw [hy]; exact he
  · by_cases e' : kl = nk e
    · exact ⟨e, by simp, e'⟩
    · rw [has_put_other e'] at hkl
      obtain ⟨y, hy, r⟩ := h.only kl hkl
      exact ⟨y, by rw [List.map_append]; exact List.mem_append_left _ hy, r⟩

/-- A block that is such a map. -/
def MpAt (W : World) (b : Nat) (L : List (Gr.Ed × Gr.Ed)) : Prop := ∃ D : DataW Unit, W.ownsMap Try.prog 151 pairE b L.length D ∧ Mp D L
theorem MpAt.keep {W W' : World} {b : Nat} {L : List (Gr.Ed × Gr.Ed)} (h : MpAt W b L) (hb : W'.heap[b]? = W.heap[b]?) : MpAt W' b L := by
  obtain ⟨D, ⟨es, clock, h1, r⟩, hm⟩ := h
  exact ⟨D, ⟨es, clock, hb.trans h1, r⟩, hm⟩
theorem MpAt.lt {W : World} {b : Nat} {L : List (Gr.Ed × Gr.Ed)} (h : MpAt W b L) : b < W.heap.size := by
  obtain ⟨D, h, _⟩ := h
  exact h.lt
theorem MpAt.below {W W' : World} {b : Nat} {L : List (Gr.Ed × Gr.Ed)} (h : MpAt W b L) (hb : Below W.heap.size W W') : MpAt W' b L := h.keep (hb.block b h.lt)
theorem MpAt.made (W : World) : MpAt (W.alloc (.map #[] 0)) W.heap.size [] := ⟨.map [], World.ownsMap_made W _ _ _, Mp.empty⟩
theorem MpAt.put {W : World} {b : Nat} {L : List (Gr.Ed × Gr.Ed)} (h : MpAt W b L) {e d : Gr.Ed} (he : Small e) (hx : e ∉ L.map Prod.fst) (hl : L.length ≤ 200) :
    ∃ W', (Instr.mapUpdate 149 (.map (some b)) (nv e) (nv d)).run Try.prog W = .ok () W' ∧ MpAt W' b (L ++ [(e, d)]) ∧ W.grownBy W' (some b) := by
  obtain ⟨D, hD, hm⟩ := h
  obtain ⟨W', h1, h2, h3⟩ := hD.update name_law Try.underlying149 (by unfold maxLen; omega) (nk_key he) (pairE_mk d)
  exact ⟨W', h1, ⟨_, by rw [List.length_append]; exact h2, hm.add he hx d⟩, h3⟩
theorem name_zero (w : World) : (zeroValue 151).run Try.prog w = .ok (nv ⟨0, 0⟩) w := by kernel_rfl
theorem MpAt.find {W : World} {b : Nat} {L : List (Gr.Ed × Gr.Ed)} (h : MpAt W b L) {e : Gr.Ed} (he : Small e) :
    ∃ d, (Instr.lookup 149 (.map (some b)) (nv e) true).run Try.prog W = .ok (.tuple #[nv d, .bool (decide (e ∈ L.map Prod.fst))]) W ∧ ∀ u, (e, u) ∈ L → d = u := by
  obtain ⟨D, hD, hm⟩ := h
  obtain ⟨v, ps, h1, h2⟩ := hD.look_ok name_law Try.underlying149 (name_zero W) (pairE_mk _) (nk_key he)
  obtain ⟨d, rfl, hd⟩ := pairE_inv h2
  refine ⟨d, by rw [h1, hm.has e he], fun u hu => ?_⟩
  injection hd with hd _
  rw [hm.at_ e u hu] at hd
  exact (pd_inj hd).symm
/-- Each key stands in it once. -/
theorem MpAt.uniq {W : World} {b : Nat} {L : List (Gr.Ed × Gr.Ed)} (h : MpAt W b L) {e d u : Gr.Ed} (h1 : (e, d) ∈ L) (h2 : (e, u) ∈ L) : d = u := by
  obtain ⟨D, _, hm⟩ := h
  exact pd_inj ((hm.at_ e d h1 (.map [])).symm.trans (hm.at_ e u h2 (.map [])))
theorem MpAt.len {W : World} {b : Nat} {L : List (Gr.Ed × Gr.Ed)} (h : MpAt W b L) (ty : TypeId) : (Builtin.len_ #[149] ty #[.map (some b)]).run Try.prog W = .ok (.int .i64 L.length) W := by
  obtain ⟨D, hD, hm⟩ := h
  rw [hD.len Try.underlying149 ty, hm.size]

/-! ### A range over it -/
/-- Block r ranges over it: 'left' says which are still to come. -/
def Rg (W : World) (b r : Nat) (L : List (Gr.Ed × Gr.Ed)) (left : Gr.Ed → Bool) (cnt : Nat) : Prop :=
  ∃ (D : DataW Unit) (lf : Lit → Bool), W.ranges Try.prog 151 pairE b r L.length D lf cnt ∧ Mp D L ∧ (∀ kl, lf kl = true → Maps.has D kl = true) ∧ ∀ e ∈ L.map Prod.fst, left e = lf (nk e)
theorem Rg.keep {W W' : World} {b r : Nat} {L : List (Gr.Ed × Gr.Ed)} {left : Gr.Ed → Bool} {cnt : Nat} (h : Rg W b r L left cnt) (h1 : W'.heap[b]? = W.heap[b]?) (h2 : W'.heap[r]? = W.heap[r]?) : Rg W' b r L left cnt := by
  obtain ⟨D, lf, ⟨es, clock, since, seen, c0, hb, F, hs, hD, hr, rest⟩, hm, hl, he⟩ := h
  exact ⟨D, lf, ⟨es, clock, since, seen, c0, h1.trans hb, F, hs, hD, h2.trans hr, rest⟩, hm, hl, he⟩
theorem Rg.lt {W : World} {b r : Nat} {L : List (Gr.Ed × Gr.Ed)} {left : Gr.Ed → Bool} {cnt : Nat} (h : Rg W b r L left cnt) : b < W.heap.size ∧ r < W.heap.size := by
  obtain ⟨D, lf, hr, _⟩ := h
  exact ⟨hr.owns.lt, hr.lt⟩
theorem Rg.below {W W' : World} {b r : Nat} {L : List (Gr.Ed × Gr.Ed)} {left : Gr.Ed → Bool} {cnt : Nat} (h : Rg W b r L left cnt) (hb : Below W.heap.size W W') : Rg W' b r L left cnt :=
  h.keep (hb.block b h.lt.1) (hb.block r h.lt.2)
theorem Rg.measure {W : World} {b r : Nat} {L : List (Gr.Ed × Gr.Ed)} {left : Gr.Ed → Bool} {cnt : Nat} (h : Rg W b r L left cnt) : W.rangeLeft b r = cnt := by
  obtain ⟨D, lf, hr, _⟩ := h
  exact hr.left_eq
theorem MpAt.range {W : World} {b : Nat} {L : List (Gr.Ed × Gr.Ed)} (h : MpAt W b L) :
    ∃ W', (Instr.range 149 (.map (some b))).run Try.prog W = .ok (.pointer (some ⟨W.heap.size, 0, none⟩)) W' ∧ (∃ cnt, Rg W' b W.heap.size L (fun e => decide (e ∈ L.map Prod.fst)) cnt) ∧ W.grownBy W' none ∧ W'.heap.size = W.heap.size + 1 := by
  obtain ⟨D, hD, hm⟩ := h
  obtain ⟨W', h1, h2, h3, h4⟩ := hD.range name_law Try.underlying149
  exact ⟨W', h1, ⟨_, D, _, h2, hm, fun kl h => h, fun e he => by rw [hm.has e (hm.small e he)]⟩, h3, h4⟩
/-- The step: nothing is left; or some entry has come. -/
theorem Rg.next {W : World} {b r : Nat} {L : List (Gr.Ed × Gr.Ed)} {left : Gr.Ed → Bool} {cnt : Nat} (h : Rg W b r L left cnt) (ty : TypeId) :
    ((∀ e ∈ L.map Prod.fst, left e = false) ∧ (Instr.next (.pointer (some ⟨r, 0, none⟩)) false ty).run Try.prog W = .ok (.tuple #[.bool false]) W) ∨
    ∃ e d W' cnt', (e, d) ∈ L ∧ (Instr.next (.pointer (some ⟨r, 0, none⟩)) false ty).run Try.prog W = .ok (.tuple #[.bool true, nv e, nv d]) W' ∧
      Rg W' b r L (fun x => left x && !decide (x = e)) cnt' ∧ cnt' < cnt ∧ W.grownBy W' (some r) ∧ W'.heap.size = W.heap.size ∧ (Instr.entry (.pointer (some ⟨r, 0, none⟩))).run Try.prog W' = .ok (.tuple #[nv e, nv d]) W' := by
  obtain ⟨D, lf, hr, hm, hl, he⟩ := h
  rcases hr.next name_law ty with ⟨_, h2, h3⟩ | ⟨key, v, kl, y, W', cnt', k1, k2, k3, k4, k5, k6, k7, k8, k9, k10⟩
  · exact .inl ⟨fun e hx => by rw [he e hx]; exact h2 _, h3⟩
  · obtain ⟨e, hx, rfl⟩ := hm.only kl (hl kl k2)
    have hs := hm.small e hx
    obtain rfl : key = nv e := name_law.inj k1 (nk_key hs)
    obtain ⟨d, rfl, rfl⟩ := pairE_inv k3
    obtain ⟨⟨e', u⟩, hu, ee⟩ := List.mem_map.1 hx
    have ee : e' = e := ee
    subst ee
    have hd : d = u := by
      have := k4 (.map [])
      rw [hm.at_ e' u hu] at this
      exact (pd_inj this).symm
    subst hd
    refine .inr ⟨e', d, W', cnt', hu, k5, ⟨D, _, k6, hm, fun kl h => hl kl (by simp only [Bool.and_eq_true] at h; exact h.1), fun x hx' => ?_⟩, k7, k8, k9, k10⟩
    show (left x && !decide (x = e')) = (lf (nk x) && !(nk x).sameKey (nk e'))
    rw [he x hx']
    refine congrArg (fun z => lf (nk x) && !z) ?_
    by_cases ex : x = e'
    · subst ex
      rw [decide_eq_true rfl, WideAt.sameKey_self (nk_lit hs)]
    · rw [decide_eq_false ex]
      exact (Bool.eq_false_iff.2 fun h => ex (nk_inj (hm.small x hx') hs (WideAt.sameKey_eq h))).symm
theorem run_makeMapN (n : Nat) (W : World) : (Instr.makeMap 149 (some (.int .i64 (n : Int)))).run Try.prog W = .ok (.map (some W.heap.size)) (W.alloc (.map #[] 0)) := by
  simp [Instr.makeMap, asInt, asIntOf]
end Go.Proofs.Ytlalpahfoafhoab.PSee
