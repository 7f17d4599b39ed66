/- run.placesOfEach, walked: the places of each transaction's operations, rising, in twelve rows of one's own; nothing that was there has turned. Conditions: the operations lie where their slice says, each transaction's number is one of twelve, there are at most 200. -/
import Derived.Test.YtlalpahfoafhoabRunOps
import Derived.Test.YtlalpahfoafhoabRunPlc
import Derived.Test.YtlalpahfoafhoabGraphZero
import Derived.Deep.AppendLies
import Derived.Deep.RegionLaw
namespace Go.Proofs.Ytlalpahfoafhoab.PRun
open Go Go.RowKit PPool PGraph
set_option maxRecDepth 100000

/-- Twelve values, one behind another. -/
def sA (V : Nat → Value) : Array Value := ((List.range 12).map V).toArray
theorem sA_size (V : Nat → Value) : (sA V).size = 12 := by simp [sA]
theorem sA_at (V : Nat → Value) {t : Nat} (ht : t < 12) : (sA V)[t]? = some (V t) := by simp [sA, ht]
theorem sA_set (V : Nat → Value) (t : Nat) (v : Value) : (sA V).setIfInBounds t v = sA fun s => if s = t then v else V s := by
  apply Array.ext_getElem?
  intro j
  rw [Array.getElem?_setIfInBounds]
  by_cases hj : j < 12
  · rw [sA_at _ hj, sA_at _ hj]
    by_cases e : t = j
    · subst e
      rw [if_pos rfl, if_pos (by rw [sA_size]; exact hj), if_pos rfl]
    · rw [if_neg e, if_neg (fun h => e h.symm)]
  · have h1 : ∀ F, (sA F)[j]? = none := fun F => Array.getElem?_eq_none (by rw [sA_size]; omega)
    rw [h1, h1]
    split
    · rw [if_neg (by rw [sA_size]; omega)]
    · rfl
def nilV : Value := .slice none 0 0
theorem rows_info : (Try.prog.info? 182).map (fun i => (i.zero, i.size)) = some (some (.agg (sA fun _ => nilV)), 12) := by kernel_rfl
def loadS (v : Value) : Sem Value := Instr.loadAt 182 v
theorem loadS_pre (v : Value) : Instr.loadAt 182 v = loadS v := rfl
theorem run_loadS {W : World} {b : Nat} {V : Nat → Value} (h : ArrAt W b (sA V)) : (loadS (.pointer (some ⟨b, 0, none⟩))).run Try.prog W = .ok (.agg (sA V)) W := by
  have := run_loadAt_mid (P := Try.prog) W b 0 182 (sA V).toList _ h.range Try.underlying182 rfl (by rw [Array.length_toList, sA_size]; exact (zero_of_info rows_info).2)
  rwa [Array.toArray_toList] at this
def storeS (v x : Value) : Sem Unit := Instr.storeAt 182 v x
theorem storeS_pre (v x : Value) : Instr.storeAt 182 v x = storeS v x := rfl
theorem sA_one {V : Nat → Value} (h : ∀ t, t < 12 → (V t).oneCell' = true) : (sA V).all (·.oneCell') = true := by
  refine Array.all_eq_true_iff_forall_mem.2 fun v hv => ?_
  simp only [sA, List.mem_toArray, List.mem_map, List.mem_range] at hv
  obtain ⟨t, ht, rfl⟩ := hv
  exact h t ht
theorem run_storeS {W : World} {b : Nat} {V0 V : Nat → Value} (h : ArrAt W b (sA V0)) (h1 : ∀ t, t < 12 → (V t).oneCell' = true) : (storeS (.pointer (some ⟨b, 0, none⟩)) (.agg (sA V))).run Try.prog W = .ok () (W.setRow b (sA V)) := by
  obtain ⟨T, h⟩ := h
  have := run_storeVar_row (P := Try.prog) W b T 182 (sA V0) (sA V) h (by rw [sA_size]; exact (zero_of_info rows_info).2) (by rw [sA_size, sA_size]) (sA_one h1)
  unfold storeS
  simp only [Instr.storeAt, Instr.sureAddr, Sem.run_bind, Sem.run_pure, Result.andThen_ok, this]
theorem ArrAt.resultS {w : World} {b : Nat} {V : Nat → Value} (h : ArrAt w b (sA V)) {fn : Func} {p : Tmp} (hf : fn.results = #[.cell p 182]) {tmps : Array Value} (hp : tmps.getD p undef = .pointer (some ⟨b, 0, none⟩)) :
    (results fn tmps).run Try.prog w = .ok (.agg (sA V)) w := by
  obtain ⟨T, h⟩ := h
  exact results_cell_row hf tmps w b T _ _ _ hp h Try.underlying182 rfl (by rw [sA_size]; exact (zero_of_info rows_info).2)

/-- Twelve rows of one's own, each in a block of its own. -/
structure Rows12 (w : World) (base : Nat) (V : Nat → Value) (L : Nat → List Nat) : Prop where
  own : ∀ t, t < 12 → OwnNats w base (V t) (L t)
  apart : ∀ s t, s < 12 → t < 12 → s ≠ t → ∀ g, (V s).ownBlock = some g → (V t).ownBlock ≠ some g
theorem Rows12.nil (w : World) (base : Nat) : Rows12 w base (fun _ => nilV) (fun _ => []) := ⟨fun _ _ => OwnR.nil _ _, fun _ _ _ _ _ g h => by cases h⟩
theorem Rows12.below {w w' : World} {base : Nat} {V : Nat → Value} {L : Nat → List Nat} (h : Rows12 w base V L) (hb : Below w.heap.size w w') : Rows12 w' base V L := ⟨fun t ht => (h.own t ht).below hb, h.apart⟩
theorem Rows12.one {w : World} {base : Nat} {V : Nat → Value} {L : Nat → List Nat} (h : Rows12 w base V L) (t : Nat) (ht : t < 12) : (V t).oneCell' = true := by
  obtain ⟨a, c, e, _⟩ := (h.own t ht).at_
  rw [e]; rfl

/-- How all stands while the places are gathered. -/
structure PlAt (w W : World) (V : Nat → Value) (L : Nat → List Nat) : Prop where
  res : ArrAt W w.heap.size (sA fun _ => nilV)
  arr : ArrAt W (w.heap.size + 1) (sA V)
  rows : Rows12 W (w.heap.size + 2) V L
  bel : Below w.heap.size w W
theorem PlAt.below {w W W' : World} {V : Nat → Value} {L : Nat → List Nat} (h : PlAt w W V L) (hb : Below W.heap.size W W') : PlAt w W' V L := ⟨h.res.below hb, h.arr.below hb, h.rows.below hb, below_tr h.bel hb⟩
theorem arr_lt {W : World} {b : Nat} {A : Array Value} (h : ArrAt W b A) : b < W.heap.size := by
  obtain ⟨T, h⟩ := h
  exact (Array.getElem?_eq_some_iff.1 h).1
/-- One more place. -/
theorem PlAt.push {w W w5 : World} {V : Nat → Value} {L : Nat → List Nat} (h : PlAt w W V L) {t k : Nat} (ht : t < 12) {g cap : Nat}
    (a1 : w5.ownsRow (w.heap.size + 2) 3 1 (.slice (some ⟨g, 0, none⟩) ((L t).length + 1) cap) ((L t).length + 1) ((L t).map nc ++ [nc k])) (a2 : W.grownBy w5 (V t).ownBlock) (a3 : (V t).ownBlock = some g ∨ g = W.heap.size) :
    (∃ v, w5.cell? ⟨w.heap.size + 1, t, none⟩ = some v) ∧ w5.frozen? ⟨w.heap.size + 1, t, none⟩ = false ∧
    PlAt w (w5.setCell ⟨w.heap.size + 1, t, none⟩ (.slice (some ⟨g, 0, none⟩) ((L t).length + 1) cap)) (fun s => if s = t then .slice (some ⟨g, 0, none⟩) ((L t).length + 1) cap else V s) (fun s => if s = t then L t ++ [k] else L s) := by
  have hlo : ∀ g', (V t).ownBlock = some g' → w.heap.size + 2 ≤ g' := fun g' hg => ((h.rows.own t ht).lt g' hg).1
  have keep : ∀ b, b < W.heap.size → (V t).ownBlock ≠ some b → w5.heap[b]? = W.heap[b]? := fun b hb hne => a2.block b hb (fun e => hne e.symm)
  have ne1 : (V t).ownBlock ≠ some w.heap.size := fun e => by have := hlo _ e; omega
  have ne2 : (V t).ownBlock ≠ some (w.heap.size + 1) := fun e => by have := hlo _ e; omega
  have k1 := keep _ (arr_lt h.res) ne1
  have k2 := keep _ (arr_lt h.arr) ne2
  have A2 : ArrAt w5 (w.heap.size + 1) (sA V) := h.arr.keep k2
  have hb5 : Below w.heap.size w w5 := Below.grown h.bel a2 h.bel.size (fun b hb => by have := hlo b hb; omega)
  have gge : w.heap.size + 2 ≤ g := by
    rcases a3 with e | e
    · exact hlo g e
    · have := arr_lt h.arr; omega
  have off : ∀ b, b ≠ w.heap.size + 1 → (w5.setCell ⟨w.heap.size + 1, t, none⟩ (.slice (some ⟨g, 0, none⟩) ((L t).length + 1) cap)).heap[b]? = w5.heap[b]? := fun b hb => Below.heap_setCell _ _ _ _ hb
  refine ⟨⟨_, A2.cell (sA_at V ht)⟩, A2.fz t, ⟨?_, ?_, ⟨fun s hs => ?_, fun s u hs hu hne g' e1 e2 => ?_⟩, hb5.setCell (p := ⟨w.heap.size + 1, t, none⟩) (Nat.le_succ _) _⟩⟩
  · exact (h.res.keep k1).keep (off _ (by omega))
  · have := A2.put t (.slice (some ⟨g, 0, none⟩) ((L t).length + 1) cap)
    rwa [sA_set] at this
  · by_cases e : s = t
    · subst e
      simp only [if_true]
      have O : OwnNats w5 (w.heap.size + 2) (.slice (some ⟨g, 0, none⟩) ((L s).length + 1) cap) (L s ++ [k]) := OwnR.grows a1
      exact O.keep fun b hb => off b (by have e' : g = b := by simpa [Value.ownBlock] using hb
                                         omega)
    · simp only [if_neg e]
      refine (h.rows.own s hs).keep fun b hb => ?_
      have hb2 := (h.rows.own s hs).lt b hb
      rw [off b (by have := hb2.1; omega)]
      exact keep b hb2.2 (h.rows.apart s t hs ht e b hb)
  · by_cases c1 : s = t
    · subst c1
      have c2 : ¬ u = s := fun e => hne e.symm
      simp only [if_true] at e1
      simp only [if_neg c2] at e2
      have eg : g = g' := by simpa [Value.ownBlock] using e1
      subst eg
      rcases a3 with e | e
      · exact h.rows.apart s u hs hu hne _ e e2
      · have := ((h.rows.own u hu).lt _ e2).2; omega
    · simp only [if_neg c1] at e1
      by_cases c2 : u = t
      · subst c2
        simp only [if_true] at e2
        have eg : g = g' := by simpa [Value.ownBlock] using e2
        subst eg
        rcases a3 with e | e
        · exact h.rows.apart u s hu hs (fun e => hne e.symm) _ e e1
        · have := ((h.rows.own s hs).lt _ e1).2; omega
      · simp only [if_neg c2] at e2
        exact h.rows.apart s u hs hu hne _ e1 e2
attribute [local go_sem ↓] loadS_pre storeS_pre

set_option maxHeartbeats 4000000 in
theorem places_any (w : World) (a : Option Addr) (c : Nat) (X : List Rn.Op) (h : OpAt w a X) (hl : X.length ≤ 200) (hX : ∀ o ∈ X, 0 ≤ o.x ∧ o.x < 12) :
    Calls Try.prog 122 #[.slice a X.length c] w fun e w' => ∃ V, e = .returned (.agg (sA V)) ∧ (∀ t, t < 12 → OwnNats w' w.heap.size (V t) (Rn.plc X t)) ∧ Below w.heap.size w w' := by
  have hz := (zero_of_info rows_info).1
  have H := hid h
  have HX := hid hX
  clear h hX
  obtain ⟨i0, hi, hz0, hz1, hz2⟩ := info_parts int_info3
  have I1 := hid hi
  have I2 := hid hz0
  have I3 := hid hz1
  have I4 := hid hz2
  clear hi hz0 hz1 hz2
  have A0 : ∀ T1 T2, Hid (PlAt w ((w.alloc (.cells (sA fun _ => nilV) T1)).alloc (.cells (sA fun _ => nilV) T2)) (fun _ => nilV) (fun _ => [])) := fun T1 T2 => by
    refine ⟨(ArrAt.new w _ _).below (bx _ _), ?_, (Rows12.nil _ _), bx2 _ _ _⟩
    have := ArrAt.new (w.alloc (.cells (sA fun _ => nilV) T1)) (sA fun _ => nilV) T2
    rwa [show (w.alloc (.cells (sA fun _ => nilV) T1)).heap.size = w.heap.size + 1 by simp] at this
  go_enter Try.func122, Try.ntmps122
  go_wp2_with fail
  go_loopw [4, 5, 8] (fun _ _ i wr => ∃ (k : Nat) (V : Nat → Value), k ≤ X.length ∧ i = .int .i64 (k : Int) ∧ Hid (PlAt w wr V (fun t => Rn.plc (X.take k) t))) (fun _ _ i _ => X.length - (intOf i).toNat)
  case atStart => exact ⟨0, fun _ => nilV, Nat.zero_le _, rfl, A0 _ _⟩
  case round =>
    clear A0
    obtain ⟨k, V, hk, rfl, hA⟩ := hrel
    by_cases hlt : k < X.length
    · obtain ⟨x, hx⟩ : ∃ x, X[k]? = some x := ⟨_, List.getElem?_eq_getElem hlt⟩
      obtain ⟨b, o, rfl, d1, d2, d3⟩ := (H.out.below hA.out.bel) k x hx
      have k0 : (0 : Int) ≤ (k : Int) := by omega
      have k1 : (k : Int) < (X.length : Int) := by omega
      have hx0 := HX.out x (List.mem_of_getElem? hx)
      have hstep : Hid ((fun t => Rn.plc (X.take (k + 1)) t) = fun s => if s = x.x.toNat then Rn.plc (X.take k) x.x.toNat ++ [k] else Rn.plc (X.take k) s) := by
        show _ = _
        funext s
        have hkk : (X.take k).length = k := by rw [List.length_take]; omega
        rw [Rn.take_snoc hx, Rn.plc_snoc, hkk]
        by_cases e : s = x.x.toNat
        · subst e
          rw [if_pos rfl, if_pos (by omega)]
        · rw [if_neg e, if_neg (by omega), List.append_nil]
      have hlen : (Rn.plc (X.take k) x.x.toNat).length ≤ 200 := by
        rw [Rn.plc_len]
        have := List.length_filter_le (fun o : Rn.Op => decide (o.x = (x.x.toNat : Int))) (X.take k)
        unfold Rn.own
        rw [List.length_take] at this
        omega
      clear hx
      obtain ⟨ox, ok, oi⟩ := x
      simp only at d1 d2 d3 hx0 hstep hlen
      obtain ⟨t, rfl⟩ : ∃ t : Nat, ox = (t : Int) := ⟨ox.toNat, by omega⟩
      simp only [Int.toNat_natCast] at hstep hlen
      have t0 : (0 : Int) ≤ (t : Int) := by omega
      have t1 : (t : Int) < 12 := by omega
      have t12 : t < 12 := by omega
      clear hx0
      obtain ⟨L, hL⟩ : ∃ L, L = fun s => Rn.plc (X.take k) s := ⟨_, rfl⟩
      rw [← hL] at hA
      have hLt : Rn.plc (X.take k) t = L t := by rw [hL]
      have hstep2 : Hid ((fun t => Rn.plc (X.take (k + 1)) t) = fun s => if s = t then L t ++ [k] else L s) := by show _ = _; rw [hstep.out, hL]
      rw [hLt] at hlen
      clear hstep hLt hL
      obtain ⟨W1, hW1⟩ : ∃ W1, W1 = wr.alloc (.cells #[.int .i64 (t : Int), .int .i64 ok, .int .i64 oi] 129) := ⟨_, rfl⟩
      have A1 : Hid (PlAt w W1 V L) := by rw [hW1]; exact hA.out.below (bx _ _)
      have hM : W1.heap.size = wr.heap.size + 1 := by rw [hW1]; simp
      have f0 : ∀ o : Obj, W1.cell? ⟨wr.heap.size, 0, none⟩ = some (.int .i64 (t : Int)) ∧ (W1.alloc o).cell? ⟨wr.heap.size, 0, none⟩ = some (.int .i64 (t : Int)) := fun o => by
        have := (box3 (w := wr) (x := .int .i64 (t : Int)) (y := .int .i64 ok) (z := .int .i64 oi) (T := 129) (Below.refl _ _)).1
        rw [← hW1] at this
        exact ⟨this, keep1 (bx W1 o) this⟩
      have r0 : ∀ o : Obj, W1.cell? ⟨w.heap.size + 1, t, none⟩ = some (V t) ∧ (W1.alloc o).cell? ⟨w.heap.size + 1, t, none⟩ = some (V t) := fun o => by
        have := A1.out.arr.cell (sA_at V t12)
        exact ⟨this, keep1 (bx W1 o) this⟩
      have f0a := (f0 (.cells #[] 0)).1
      have f0b := fun o => (f0 o).2
      have r0a := (r0 (.cells #[] 0)).1
      have r0b := fun o => (r0 o).2
      clear f0 r0
      have A2 : ∀ o : Obj, Hid (PlAt w (W1.alloc o).drew V L) := fun o => A1.out.below (bx W1 o).drew
      have OW : Hid (((W1.alloc (.cells #[.int .i64 (k : Int)] 3)).drew).ownsRow (w.heap.size + 2) 3 1 (V t) (L t).length ((L t).map nc)) := ((A2 _).out.rows.own t t12)
      have NW : Hid (∀ j u, [nc k][j]? = some u → ((W1.alloc (.cells #[.int .i64 (k : Int)] 3)).drew).cell? ((⟨W1.heap.size, 0, none⟩ : Addr).add j) = some u) := by
        intro j u hu
        rw [Addr.add_mid]
        exact (cell_of_row (W1.alloc (.cells #[.int .i64 (k : Int)] 3)) _ _ _ _ _ (heap_alloc_new W1 _)).trans (by cases j <;> simp_all)
      have HB : Hid (w.heap.size + 2 ≤ ((W1.alloc (.cells #[.int .i64 (k : Int)] 3)).drew).heap.size) := by
        have := arr_lt (A2 (.cells #[.int .i64 (k : Int)] 3)).out.arr
        show _ ≤ _; omega
      have PA : Hid (∀ (g cap : Nat) (w5 : World), w5.ownsRow (w.heap.size + 2) 3 1 (.slice (some ⟨g, 0, none⟩) ((L t).length + 1) cap) ((L t).length + 1) ((L t).map nc ++ [nc k]) → ((W1.alloc (.cells #[.int .i64 (k : Int)] 3)).drew).grownBy w5 (V t).ownBlock → ((V t).ownBlock = some g ∨ g = ((W1.alloc (.cells #[.int .i64 (k : Int)] 3)).drew).heap.size) → _) :=
        fun g cap w5 a1 a2 a3 => (A2 _).out.push t12 a1 a2 a3
      have PB : Hid (∀ (w5 : World), ((W1.alloc (.cells #[.int .i64 (k : Int)] 3)).drew).grownBy w5 (V t).ownBlock → w5.cell? ⟨wr.heap.size, 0, none⟩ = some (.int .i64 (t : Int))) := fun w5 a2 => by
        have hne : (V t).ownBlock ≠ some wr.heap.size := fun e => by have := ((hA.out.rows.own t t12).lt _ e).2; omega
        exact (World.cell?_of_block (a := ⟨wr.heap.size, 0, none⟩) (a2.block wr.heap.size (by show wr.heap.size < (W1.alloc (.cells #[.int .i64 (k : Int)] 3)).heap.size; simp; omega) (fun e => hne e.symm))).trans (f0b (.cells #[.int .i64 (k : Int)] 3))
      go_wp2_with fail
      rw [← hW1]
      clear hW1 hM d1 d2 d3 hA
      go_region_law ((refine step_append_lies _ (by rfl) _ _ _ (by rfl) (w.heap.size + 2) 3 i0 (.int .i64 0) 1 8 Try.underlying47 I1.out I2.out I3.out I4.out rfl (by omega) (V t) (L t).length ((L t).map nc) (by rfl) OW.out ⟨W1.heap.size, 0, none⟩ 1 1 [nc k] (by rfl) rfl NW.out (nats_one [k]) (by omega) (by unfold maxLen; omega) (by omega) HB.out _ rfl ?_; intro g cap w5 a1 a2 a3 a4; obtain ⟨⟨v5, q1⟩, q2, q3⟩ := PA.out g cap w5 a1 a2 a3; have Q3 := hid q3; have q0 := PB.out w5 a2; clear a1 a2 a3 q3))
      all_goals
        go_wp2_with fail
        refine ⟨⟨k + 1, _, by omega, by go_num, by rw [hstep2.out]; exact Q3⟩, ?_⟩
        simp [intOf]; omega
    · obtain rfl : k = X.length := by omega
      have hA2 : Hid (PlAt w wr V (fun t => Rn.plc X t)) := by have := hA.out; simp only [List.take_length] at this; exact this
      have hl1 := run_loadS hA2.out.arr
      have hs1 := run_storeS hA2.out.res (fun t ht => hA2.out.rows.one t ht)
      have F1 : Hid (ArrAt (wr.setRow w.heap.size (sA V)) w.heap.size (sA V)) := hA2.out.res.row _
      have F2 : Hid (Below w.heap.size w (wr.setRow w.heap.size (sA V))) := Below.row hA2.out.bel (Nat.le_refl _) _
      have F3 : Hid (∀ t, t < 12 → OwnNats (wr.setRow w.heap.size (sA V)) w.heap.size (V t) (Rn.plc X t)) := fun t ht => by
        have O := hA2.out.rows.own t ht
        refine (O.lower (by omega)).keep fun b hb => setRow_other wr _ _ _ ?_
        have := (O.lt b hb).1
        omega
      have j3 : decide ((X.length : Int) < (X.length : Int)) = false := by simp
      clear hA hA2
      go_wp2_with fail
      exact bodyPost_ret (F1.out.resultS rfl rfl) rfl ⟨V, rfl, F3.out, F2.out⟩
end Go.Proofs.Ytlalpahfoafhoab.PRun
