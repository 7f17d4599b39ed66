/- Go's slices.Insert of one item, walked: it answers what the plain lists say, in a row of one's own; no other block turns. Conditions: how many items there are. -/
import Derived.Test.YtjoaedkgjnchoanLockRws
import Derived.Test.YtjoaedkgjnchoanLockLib
import Derived.Deep.RegionLaw
namespace Go.Proofs.Ytjoaedkgjnchoan.PLock
open Go Go.RowKit PPool
set_option maxRecDepth 100000

theorem rw_drop (X : List Rw) (k : Nat) : (X.drop k).flatMap ic = (X.flatMap ic).drop (k * 3) := by
  have h1 := rw_take X k
  have h2 : X.flatMap ic = (X.take k).flatMap ic ++ (X.drop k).flatMap ic := by rw [← List.flatMap_append, List.take_append_drop]
  by_cases hk : k ≤ X.length
  · rw [h2, List.drop_left' (by rw [rw_len, List.length_take]; omega)]
  · rw [List.drop_of_length_le (by omega), List.drop_of_length_le (by rw [rw_len]; omega)]; rfl
theorem RwAt.flat {w : World} {b o : Nat} {X : List Rw} (h : RwAt w (some ⟨b, o, none⟩) X) : ∀ j u, (X.flatMap ic)[j]? = some u → w.cell? ((⟨b, o, none⟩ : Addr).add j) = some u := by
  intro j u hj
  have hjl := (List.getElem?_eq_some_iff.1 hj).1
  rw [rw_len] at hjl
  obtain ⟨x, hx⟩ : ∃ x, X[j / 3]? = some x := ⟨_, List.getElem?_eq_getElem (by omega)⟩
  obtain ⟨b', o', e, h0, h1, h2⟩ := h _ x hx
  injection e with e
  injection e with e1 e2
  subst e1; subst e2
  rw [Addr.add_mid]
  have at_ : ∀ r v, (ic x)[r]? = some v → j % 3 = r → u = v := fun r v hv hr => by
    have := flat_at (enc := ic) (c := 3) X (fun x _ => ic_len x) (j / 3) x hx r v hv
    rw [show j / 3 * 3 + r = j by omega, hj] at this
    exact Option.some.inj this
  have hm : j % 3 = 0 ∨ j % 3 = 1 ∨ j % 3 = 2 := by omega
  rcases hm with hm | hm | hm
  · rw [at_ 0 _ rfl hm, show o + j = o + j / 3 * 3 by omega]; exact h0
  · rw [at_ 1 _ rfl hm, show o + j = o + j / 3 * 3 + 1 by omega]; exact h1
  · rw [at_ 2 _ rfl hm, show o + j = o + j / 3 * 3 + 2 by omega]; exact h2

theorem RwAt.drop {w : World} {b o : Nat} {X : List Rw} (h : RwAt w (some ⟨b, o, none⟩) X) (k : Nat) : RwAt w (some ⟨b, o + k * 3, none⟩) (X.drop k) := fun j x hj => by
  rw [List.getElem?_drop] at hj
  obtain ⟨b', o', e, h1, h2, h3⟩ := h _ x hj
  cases e
  refine ⟨b, o + k * 3, rfl, ?_, ?_, ?_⟩
  · rw [← h1]; congr 2; omega
  · rw [← h2]; congr 2; omega
  · rw [← h3]; congr 2; omega
theorem rown_block {w : World} {base g n c : Nat} {X : List Rw} (h : OwnIt w base (.slice (some ⟨g, 0, none⟩) n c) X) : ∃ cur : Array Value, w.heap[g]? = some (.cells cur 66 (0, 0)) ∧ cur.size = c * 3 ∧ n = X.length ∧ X.length ≤ c ∧ c ≤ maxLen ∧ base ≤ g ∧ cur.toList.take (X.length * 3) = X.flatMap ic := by
  rcases h.2 with ⟨e, _⟩ | ⟨g', cap, cur, hv, hg, hh, h1, h2, h3, h4⟩
  · cases e
  · injection hv with e1 e2 e3
    have eg : g = g' := by injection e1 with e1; injection e1
    subst eg; subst e2; subst e3
    exact ⟨cur, hh, h3, rfl, h1, h2, hg, h4⟩
/-- Bitems laid over a part of it, and behind it. -/
theorem rown_lay {w : World} {base g n c : Nat} {X : List Rw} (h : OwnIt w base (.slice (some ⟨g, 0, none⟩) n c) X) (k : Nat) (Y : List Rw) (hk : k ≤ X.length) (hkY : k + Y.length ≤ c) :
    OwnIt (w.setCells g (k * 3) (Y.flatMap ic)) base (.slice (some ⟨g, 0, none⟩) (X.take k ++ Y ++ X.drop (k + Y.length)).length c) (X.take k ++ Y ++ X.drop (k + Y.length)) := by
  obtain ⟨cur, hh, h3, rfl, h1, h2, hg, h4⟩ := rown_block h
  have hl := rw_len Y
  have hfit : k * 3 + (Y.flatMap ic).length ≤ cur.size := by omega
  have hc : cur.toList.length = c * 3 := by rw [Array.length_toList, h3]
  rw [setCells_eq_setRow Try.prog w g (k * 3) cur _ (Y.flatMap ic) hh hfit (rw_one Y)]
  refine ⟨by rw [rw_len], .inr ⟨g, c, _, rfl, hg, setRow_heap w g cur _ _ _ hh, ?_, h2, ?_, ?_⟩⟩
  · simp; omega
  · rw [List.size_toArray, List.length_append, List.length_append, List.length_take, List.length_drop, hc]
    omega
  · rw [List.flatMap_append, List.flatMap_append, rw_take, rw_drop, ← h4, List.take_take, Nat.min_eq_left (by omega), List.drop_take]
    have e1 : (X.take k ++ Y ++ X.drop (k + Y.length)).length = k + Y.length + (X.length - (k + Y.length)) := by simp; omega
    rw [e1]
    show List.take _ (List.take (k * 3) cur.toList ++ Y.flatMap ic ++ List.drop (k * 3 + (Y.flatMap ic).length) cur.toList) = _
    have e2 : (List.take (k * 3) cur.toList ++ Y.flatMap ic).length = (k + Y.length) * 3 := by rw [List.length_append, List.length_take, hl, hc]; omega
    rw [List.take_append, e2, List.take_of_length_le (by rw [e2]; omega), hl]
    congr 2
    · omega
    · congr 1; omega
def Rw.zero' : Rw := ⟨0, none, 0, 0, none, 0, 0⟩
theorem rzero_cells (k : Nat) : Builtin.zeroCells (Value.agg #[.int .i64 0, .slice none 0 0, .slice none 0 0]).cells k = ((List.replicate k Rw.zero').flatMap ic).toArray := by
  apply Array.ext'
  apply List.ext_getElem?
  intro j
  unfold Builtin.zeroCells
  show ((Array.range (k * 3)).map _).toList[j]? = ((List.replicate k Rw.zero').flatMap ic)[j]?
  rw [Array.toList_map, Array.toList_range, List.getElem?_map]
  by_cases hj : j < k * 3
  · have hx : (List.replicate k Rw.zero')[j / 3]? = some Rw.zero' := by rw [List.getElem?_replicate, if_pos (by omega)]
    rw [List.getElem?_range hj]
    have hm : j % 3 = 0 ∨ j % 3 = 1 ∨ j % 3 = 2 := by omega
    rcases hm with hm | hm | hm
    · have e2 := flat_at (enc := ic) (c := 3) _ (fun x _ => ic_len x) (j / 3) _ hx 0 (.int .i64 0) rfl
      rw [show j / 3 * 3 + 0 = j by omega] at e2
      rw [e2]
      simp [Value.cells, hm]
    · have e2 := flat_at (enc := ic) (c := 3) _ (fun x _ => ic_len x) (j / 3) _ hx 1 (.slice none 0 0) rfl
      rw [show j / 3 * 3 + 1 = j by omega] at e2
      rw [e2]
      simp [Value.cells, hm]
    · have e2 := flat_at (enc := ic) (c := 3) _ (fun x _ => ic_len x) (j / 3) _ hx 2 (.slice none 0 0) rfl
      rw [show j / 3 * 3 + 2 = j by omega] at e2
      rw [e2]
      simp [Value.cells, hm]
  · rw [List.getElem?_eq_none (by simp; omega), List.getElem?_eq_none (by rw [rw_len, List.length_replicate]; omega)]
    rfl
theorem run_copy_rw {w : World} {base g n c : Nat} {X : List Rw} (h : OwnIt w base (.slice (some ⟨g, 0, none⟩) n c) X) (t2 ty : TypeId) (k dLen dCap : Nat) (a : Addr) (sLen sCap : Nat) (Y : List Rw) (hY : Y.length = Nat.min sLen dLen) (hk : k + Y.length ≤ c)
    (hs : ∀ j u, (Y.flatMap ic)[j]? = some u → w.cell? (a.add j) = some u) :
    (Builtin.copy_ #[58, t2] ty #[.slice (some ⟨g, k * 3, none⟩) dLen dCap, .slice (some a) sLen sCap]).run Try.prog w = .ok (goInt Y.length) (w.setCells g (k * 3) (Y.flatMap ic)) := by
  obtain ⟨cur, hh, h3, rfl, h1, h2, hg, h4⟩ := rown_block h
  obtain ⟨i0, hi, hz0, hz1, hz2⟩ := info_parts item_info
  have hl := run_loadCells_list (P := Try.prog) w a (Y.flatMap ic) hs
  have hst := run_storeCells_cells (P := Try.prog) g (k * 3) (Y.flatMap ic) 0 w (fun j hj => by rw [rw_len] at hj; rw [cell_of_row w g _ cur _ _ hh]; simp; omega) (fun j _ => by simp [World.frozen?, hh]) (rw_one Y)
  have hn : (Y.flatMap ic).length = Y.length * 3 := rw_len Y
  rw [hn] at hl
  simp [Builtin.copy_, run_underlying Try.underlying58, Builtin.lenOf, Builtin.firstCells, sizeOf, typeInfo, hi, hz1, ← hY, hl, hst]
/-- append of a slice of the unnamed type. -/
theorem append_two (ty : TypeId) (a1 a2 : Option Addr) (n1 c1 n2 c2 : Nat) (w : World) : (Builtin.append_ #[58, 57] ty #[.slice a1 n1 c1, .slice a2 n2 c2]).run Try.prog w = (Builtin.append_ #[58, 58] ty #[.slice a1 n1 c1, .slice a2 n2 c2]).run Try.prog w := by
  simp [Builtin.append_, run_underlying Try.underlying58, run_underlying Try.underlying57]

/-- The item that is handed in, in memory of its own. -/
def ROne (w : World) (vb : Nat) (b : Rw) : Prop := w.heap[vb]? = some (.cells #[.int .i64 b.i, .slice b.ha b.hn b.hc, .slice b.qa b.qn b.qc] 66 (0, 0))
theorem ROne.at_ {w : World} {vb : Nat} {b : Rw} (h : ROne w vb b) : RwAt w (some ⟨vb, 0, none⟩) [b] := fun j x hj => by
  match j, hj with
  | 0, hj =>
    cases hj
    exact ⟨vb, 0, rfl, by rw [cell_of_row w _ _ _ _ _ h]; rfl, by rw [cell_of_row w _ _ _ _ _ h]; rfl, by rw [cell_of_row w _ _ _ _ _ h]; rfl⟩
theorem ROne.lt {w : World} {vb : Nat} {b : Rw} (h : ROne w vb b) : vb < w.heap.size := lt_of_heap h

set_option maxHeartbeats 1000000 in
theorem rinsert_end (w : World) (base : Nat) (a : Option Addr) (c n vb : Nat) (X : List Rw) (b : Rw) (hn : X.length = n) (h : OwnIt w base (.slice a n c) X) (hv : ROne w vb b) (hl : n ≤ 2000) (hbase : base ≤ w.heap.size) (hc : n ≤ c) :
    Calls Try.prog 67 #[.slice a n c, .int .i64 (n : Int), .slice (some ⟨vb, 0, none⟩) 1 1] w fun e w' => ∃ v', e = .returned v' ∧ OwnIt w' base v' (X ++ [b]) ∧ Goes (ownB (.slice a n c)) w w' (ownB v') := by
  obtain ⟨i0, hi, hz0, hz1, hz2⟩ := info_parts item_info
  have hsl : ∀ W : World, ∃ V, (Instr.slice 58 (.slice a n c) (some (.int .i64 (n : Int))) none none).run Try.prog W = .ok V W := fun W => by
    have u := Try.underlying58
    have z := Try.sizeOf66
    have k1 : (n : Int) ≤ (c : Int) := by omega
    cases a with
    | none => exact ⟨.slice none 0 (c - n), by go_simp⟩
    | some q => exact ⟨.slice (if c = n then some q else some (q.add (n * 3))) 0 (c - n), by go_simp⟩
  obtain ⟨V, hV⟩ := hsl w
  obtain ⟨v', w4, hr0, hown, hgrow, _, hat⟩ := run_append_own_at (P := Try.prog) w base 58 58 66 i0 (.agg #[.int .i64 0, .slice none 0 0, .slice none 0 0]) 3 56 Try.underlying58 hi hz0 hz1 hz2 rfl (by decide) _ _ _ h ⟨vb, 0, none⟩ 1 1 (ic b) rfl
    (fun j u hj => hv.at_.flat j u (by simpa using hj)) (ic_one _) (by rw [hn]; unfold maxLen; omega) (by rw [hn]; omega) hbase
  have HRR := hid ((append_two 58 _ _ _ _ _ _ w).trans hr0)
  have hnl : (n : Int) ≤ 2000 := by omega
  clear h hv hsl hn hr0
  have O5 := hid (OwnIt.grows hown)
  have gg := (Goes.refl (ownB (.slice a n c)) w).grown hgrow (fun k hk => .inl hk)
  have G5 : Hid (Goes (ownB (.slice a n c)) w w4 (ownB v')) := ⟨gg.os, gg.tape, gg.output, gg.size, gg.block, fun g hg => by
    rcases hat with e | e
    · exact gg.grow g (e.symm.trans hg)
    · right
      have e2 : some g = some _ := hg.symm.trans e
      injection e2 with e2
      omega⟩
  clear hown hgrow gg hat
  go_enter Try.func67, Try.ntmps67
  go_wp2_with (at_builtin; refine Lib.wpList_append_run _ rfl _ _ 58 57 rfl _ _ rfl rfl v' w4 HRR.out ?_)
  go_ret
  exact ⟨v', rfl, O5.out, G5.out⟩

theorem rshift_lay {X : List Rw} {b : Rw} {i n : Nat} (hn : X.length = n) (hi : i < n) :
    (X.take (i + 1) ++ X.drop i ++ X.drop (i + 1 + (X.drop i).length)).take i ++ [b] ++ (X.take (i + 1) ++ X.drop i ++ X.drop (i + 1 + (X.drop i).length)).drop (i + [b].length) = X.take i ++ b :: X.drop i := by
  have e1 : X.drop (i + 1 + (X.drop i).length) = [] := List.drop_of_length_le (by rw [List.length_drop]; omega)
  have l1 : (X.take (i + 1)).length = i + 1 := by rw [List.length_take]; omega
  rw [e1, List.append_nil, List.take_append_of_le_length (by omega), List.take_take, Nat.min_eq_left (by omega), List.length_singleton, List.drop_append_of_le_length (by omega), List.drop_of_length_le (by omega)]
  simp

set_option maxHeartbeats 1000000 in
theorem rinsert_shift (w : World) (base g c n i vb : Nat) (X : List Rw) (b : Rw) (hn : X.length = n) (h : OwnIt w base (.slice (some ⟨g, 0, none⟩) n c) X) (hv : ROne w vb b) (hvg : vb ≠ g) (hl : n ≤ 2000) (hi : i < n) (hc : n + 1 ≤ c) :
    Calls Try.prog 67 #[.slice (some ⟨g, 0, none⟩) n c, .int .i64 (i : Int), .slice (some ⟨vb, 0, none⟩) 1 1] w fun e w' => e = .returned (.slice (some ⟨g, 0, none⟩) (n + 1) c) ∧ OwnIt w' base (.slice (some ⟨g, 0, none⟩) (n + 1) c) (X.take i ++ b :: X.drop i) ∧ Goes (fun k => k = g) w w' (fun k => k = g) := by
  obtain ⟨cur, hh, h3, hx4, h1, h2, hg, h4⟩ := rown_block h
  clear hx4
  have hgl := lt_of_heap hh
  have u := Try.underlying58
  have z := Try.sizeOf66
  have hcm : (c : Int) ≤ 9223372036854775807 := by unfold maxLen at h2; omega
  have hnc : (n : Int) + 1 ≤ (c : Int) := by omega
  have hdl : (X.drop i).length = n - i := by rw [List.length_drop]; omega
  have hov : ∀ lb cb, (callFunc 81 #[.slice (some ⟨vb, 0, none⟩) 1 1, .slice (some ⟨g, (i + 1) * 3, none⟩) lb cb]).run Try.prog w = .ok (.value (.bool false)) w := fun lb cb => by
    rw [run_callFunc_extern Try.func81 (by kernel_rfl) (by kernel_rfl) (by kernel_rfl) (e := Extern.SlicesOverlaps.overlaps #[57, 57] #[4]) (by kernel_rfl),
      Lib.run_overlaps_apart w 57 4 66 Try.underlying57 3 Try.sizeOf66 ⟨vb, 0, none⟩ ⟨g, (i + 1) * 3, none⟩ 1 1 lb cb hvg 66 66 3 (c * 3) (by unfold World.shape?; rw [hv]; rfl) (by unfold World.shape?; rw [hh]; simp [h3]) (by omega) (by simp [World.frozen?, show w.heap[vb]? = _ from hv]) (by simp [World.frozen?, show w.heap[vb]? = _ from hv])]
    rfl
  have hd : OwnIt w.drew base (.slice (some ⟨g, 0, none⟩) n c) X := h.keep fun _ _ => rfl
  have c1 : ∀ ty, (Builtin.copy_ #[58, 58] ty #[.slice (some ⟨g, (i + 1) * 3, none⟩) (n - i) (c - (i + 1)), .slice (some ⟨g, i * 3, none⟩) (n + 1 - i) (c - i)]).run Try.prog w.drew = .ok (goInt (X.drop i).length) (w.drew.setCells g ((i + 1) * 3) ((X.drop i).flatMap ic)) := fun ty =>
    run_copy_rw hd 58 ty (i + 1) (n - i) (c - (i + 1)) ⟨g, i * 3, none⟩ (n + 1 - i) (c - i) (X.drop i) (by rw [hdl]; show _ = min _ _; omega) (by rw [hdl]; omega) (by have := ((own_rw hd).drop i).flat; rwa [Nat.zero_add] at this)
  have O1 := rown_lay hd (i + 1) (X.drop i) (by omega) (by rw [hdl]; omega)
  have G1 : Goes (fun k => k = g) w (w.drew.setCells g ((i + 1) * 3) ((X.drop i).flatMap ic)) (fun k => k = g) := goes_lay (Goes.refl _ w).drew _ _
  have hsl := rshift_lay (b := b) hn hi
  have hlen : (X.take (i + 1) ++ X.drop i ++ X.drop (i + 1 + (X.drop i).length)).length = n + 1 := by simp; omega
  generalize X.take (i + 1) ++ X.drop i ++ X.drop (i + 1 + (X.drop i).length) = Y at *
  have hvd : ROne (w.drew.setCells g ((i + 1) * 3) ((X.drop i).flatMap ic)) vb b := (G1.block vb hv.lt hvg).trans hv
  generalize w.drew.setCells g ((i + 1) * 3) ((X.drop i).flatMap ic) = W1 at *
  have c2 : ∀ ty, (Builtin.copy_ #[58, 57] ty #[.slice (some ⟨g, i * 3, none⟩) (n + 1 - i) (c - i), .slice (some ⟨vb, 0, none⟩) 1 1]).run Try.prog W1 = .ok (goInt 1) (W1.setCells g (i * 3) ([b].flatMap ic)) := fun ty =>
    run_copy_rw O1 57 ty i (n + 1 - i) (c - i) ⟨vb, 0, none⟩ 1 1 [b] (by show 1 = min _ _; omega) (by show i + 1 ≤ c; omega) hvd.at_.flat
  have O2 := rown_lay O1 i [b] (by omega) (by show i + 1 ≤ c; omega)
  have HO : Hid (OwnIt (W1.setCells g (i * 3) ([b].flatMap ic)) base (.slice (some ⟨g, 0, none⟩) (n + 1) c) (X.take i ++ b :: X.drop i)) := by
    rw [hsl] at O2
    have e : (X.take i ++ b :: X.drop i).length = n + 1 := by simp; omega
    rw [e] at O2
    exact O2
  have HG := hid (goes_lay G1 (i * 3) ([b].flatMap ic))
  generalize [b].flatMap ic = zs at *
  have b1 : (0 : Int) ≤ (i : Int) := by omega
  have b2 : (i : Int) ≤ (n : Int) := by omega
  have b3 : ((i : Int) == (n : Int)) = false := by rw [beq_eq_false_iff_ne]; omega
  have b4 : ¬ (c = i) := by omega
  have b5 : ¬ (c = i + 1) := by omega
  have b6 : (n : Int) ≤ 2000 := by omega
  have b7 : ¬ ((c : Int) < (n : Int) + 1) := by omega
  have b8 : (i : Int) + 1 ≤ (n : Int) + 1 := by omega
  generalize (X.drop i).length = q at *
  clear hh h3 h1 h2 hg h4 O1 O2 G1 h hd hsl hlen hvd hv hdl hn hgl
  go_enter Try.func67, Try.ntmps67
  go_wp2_with (simp only [hov])
  go_region
  go_wp2_with fail
  go_ret
  exact ⟨rfl, HO.out, HG.out⟩

theorem rgrow_lay {X : List Rw} {b : Rw} {i n : Nat} (hn : X.length = n) (hi : i < n) :
    ((X.take i ++ List.replicate (n + 1 - i) Rw.zero').take i ++ [b] ++ (X.take i ++ List.replicate (n + 1 - i) Rw.zero').drop (i + [b].length)).take (i + 1) ++ X.drop i ++ ((X.take i ++ List.replicate (n + 1 - i) Rw.zero').take i ++ [b] ++ (X.take i ++ List.replicate (n + 1 - i) Rw.zero').drop (i + [b].length)).drop (i + 1 + (X.drop i).length) = X.take i ++ b :: X.drop i := by
  have l1 : (X.take i).length = i := by rw [List.length_take]; omega
  have e1 : (X.take i ++ List.replicate (n + 1 - i) Rw.zero').take i = X.take i := List.take_left' l1
  rw [e1]
  have l2 : (X.take i ++ [b]).length = i + 1 := by rw [List.length_append, l1]; rfl
  rw [List.take_left' l2, List.drop_of_length_le (i := i + 1 + (X.drop i).length)]
  · simp
  · simp
    omega

set_option maxHeartbeats 1000000 in
theorem rinsert_grow (w : World) (base g c n i vb : Nat) (X : List Rw) (b : Rw) (hn : X.length = n) (h : OwnIt w base (.slice (some ⟨g, 0, none⟩) n c) X) (hv : ROne w vb b) (hl : n ≤ 2000) (hi : i < n) (hc : c < n + 1) (hbase : base ≤ w.heap.size) :
    Calls Try.prog 67 #[.slice (some ⟨g, 0, none⟩) n c, .int .i64 (i : Int), .slice (some ⟨vb, 0, none⟩) 1 1] w fun e w' => ∃ G, e = .returned (.slice (some ⟨w.heap.size, 0, none⟩) (n + 1) G) ∧ OwnIt w' base (.slice (some ⟨w.heap.size, 0, none⟩) (n + 1) G) (X.take i ++ b :: X.drop i) ∧ Below w.heap.size w w' := by
  obtain ⟨cur, hh, h3, hx4, h1, h2, hg, h4⟩ := rown_block h
  obtain rfl : c = n := by omega
  clear hx4
  have hgl := lt_of_heap hh
  obtain ⟨i0, hi0, hz0, hz1, hz2⟩ := info_parts item_info
  have u := Try.underlying58
  have u3 := Try.underlying3
  have z := Try.sizeOf66
  have hdl : (X.drop i).length = c - i := by rw [List.length_drop]; omega
  have htl : (X.take i).length = i := by rw [List.length_take]; omega
  have hd : OwnIt w.drew base (.slice (some ⟨g, 0, none⟩) c c) X := h.keep fun _ _ => rfl
  have hold : (Builtin.firstCells i0.size i (.slice (some ⟨g, 0, none⟩) i c)).run Try.prog w.drew = .ok ((X.take i).flatMap ic).toArray w.drew := by
    rw [hz1]
    exact run_firstCells_some w.drew 3 i ⟨g, 0, none⟩ i c ((X.take i).flatMap ic) (by rw [rw_len, htl]) ((own_rw hd).take i).flat
  obtain ⟨G, hG⟩ : ∃ G, G = grownCap w (c + 1) c 66 := ⟨_, rfl⟩
  have hGge : c + 1 ≤ G := by rw [hG]; exact grownCap_ge w _ _ _
  have hGm : G ≤ maxLen := by rw [hG]; exact grownCap_le_maxLen w (c + 1) c _ (by unfold maxLen; omega)
  have hkk : (c : Int) + 1 - (i : Int) = ((c + 1 - i : Nat) : Int) := by omega
  have hik : i + (c + 1 - i) = c + 1 := by omega
  have hrz : ∀ ty, (Builtin.append_ #[58, 3] ty #[.slice (some ⟨g, 0, none⟩) i c, .int .i64 ((c : Int) + 1 - (i : Int))]).run Try.prog w = .ok (.slice (some ⟨w.heap.size, 0, none⟩) (c + 1) G) (w.drew.alloc (.cells (((X.take i).flatMap ic).toArray ++ Builtin.zeroCells (Value.agg #[.int .i64 0, .slice none 0 0, .slice none 0 0]).cells (c + 1 - i) ++ Builtin.zeroCells (Value.agg #[.int .i64 0, .slice none 0 0, .slice none 0 0]).cells (G - (c + 1))) 66)) := fun ty => by
    have hr := Lib.run_append_grow_zeros (P := Try.prog) w 58 3 ty 66 i0 _ .i64 .i64 u u3 hi0 hz0 (some ⟨g, 0, none⟩) i c ((X.take i).flatMap ic) hold (c + 1 - i) (by omega) (by omega) (by omega) (by omega) (by rw [hz2]; omega) (by rw [hz2, hik]; exact growslice_fits (by omega) (by omega))
    rw [hik, ← hG] at hr
    rw [hkk]
    exact hr
  obtain ⟨W1, hW1⟩ : ∃ W1, W1 = w.drew.alloc (.cells (((X.take i).flatMap ic).toArray ++ Builtin.zeroCells (Value.agg #[.int .i64 0, .slice none 0 0, .slice none 0 0]).cells (c + 1 - i) ++ Builtin.zeroCells (Value.agg #[.int .i64 0, .slice none 0 0, .slice none 0 0]).cells (G - (c + 1))) 66) := ⟨_, rfl⟩
  rw [← hW1] at hrz
  have O1 : OwnIt W1 base (.slice (some ⟨w.heap.size, 0, none⟩) (c + 1) G) (X.take i ++ List.replicate (c + 1 - i) Rw.zero') := by
    have hl1 : (X.take i ++ List.replicate (c + 1 - i) Rw.zero').length = c + 1 := by rw [List.length_append, htl, List.length_replicate]; omega
    have hl2 := rw_len (X.take i ++ List.replicate (c + 1 - i) Rw.zero')
    rw [List.flatMap_append] at hl2
    refine ⟨by rw [rw_len], .inr ⟨w.heap.size, G, _, by rw [hl1], hbase, by rw [hW1]; exact heap_alloc_new w.drew _, by omega, hGm, ?_, ?_⟩⟩
    · rw [rzero_cells, rzero_cells, Array.size_append, Array.size_append, List.size_toArray, List.size_toArray, List.size_toArray, ← List.length_append, hl2, hl1, rw_len, List.length_replicate]
      omega
    · rw [hl1, rzero_cells, rzero_cells, List.flatMap_append]
      simp only [List.append_toArray]
      rw [List.take_left' (by rw [hl2, hl1])]
  have B1 : Below w.heap.size w W1 := by rw [hW1]; exact (Below.refl _ w).drew.alloc (Nat.le_refl _) _
  clear hW1 hold hi0 hz0 hz1 hz2 hG hkk
  have hvd : ROne W1 vb b := (B1.block vb hv.lt).trans hv
  have hvg : vb < w.heap.size := hv.lt
  have c1 : ∀ ty, (Builtin.copy_ #[58, 57] ty #[.slice (some ⟨w.heap.size, i * 3, none⟩) (c + 1 - i) (G - i), .slice (some ⟨vb, 0, none⟩) 1 1]).run Try.prog W1 = .ok (goInt 1) (W1.setCells w.heap.size (i * 3) ([b].flatMap ic)) := fun ty =>
    run_copy_rw O1 57 ty i (c + 1 - i) (G - i) ⟨vb, 0, none⟩ 1 1 [b] (by show 1 = min _ _; omega) (by show i + 1 ≤ G; omega) hvd.at_.flat
  have O2 := rown_lay O1 i [b] (by simp; omega) (by show i + 1 ≤ G; omega)
  have B2 : Below w.heap.size w (W1.setCells w.heap.size (i * 3) ([b].flatMap ic)) := (goes_set (own := fun k => k = w.heap.size) (goes_of_below (own := fun k => k = w.heap.size) B1) (.inl rfl) _ _).below (Nat.le_refl _) (fun k hk => by omega)
  have hsl := rgrow_lay (b := b) hn hi
  have hY : ((X.take i ++ List.replicate (c + 1 - i) Rw.zero').take i ++ [b] ++ (X.take i ++ List.replicate (c + 1 - i) Rw.zero').drop (i + [b].length)).length = c + 1 := by simp; omega
  generalize (X.take i ++ List.replicate (c + 1 - i) Rw.zero').take i ++ [b] ++ (X.take i ++ List.replicate (c + 1 - i) Rw.zero').drop (i + [b].length) = Y at *
  generalize W1.setCells w.heap.size (i * 3) ([b].flatMap ic) = W2 at *
  have O2d : OwnIt W2.drew base (.slice (some ⟨w.heap.size, 0, none⟩) Y.length G) Y := O2.keep fun _ _ => rfl
  have hX2 : RwAt W2.drew (some ⟨g, 0, none⟩) X := ((own_rw h).below B2).drew
  have c2 : ∀ ty, (Builtin.copy_ #[58, 58] ty #[.slice (some ⟨w.heap.size, (i + 1) * 3, none⟩) (c - i) (G - (i + 1)), .slice (some ⟨g, i * 3, none⟩) (c - i) (c - i)]).run Try.prog W2.drew = .ok (goInt (X.drop i).length) (W2.drew.setCells w.heap.size ((i + 1) * 3) ((X.drop i).flatMap ic)) := fun ty =>
    run_copy_rw O2d 58 ty (i + 1) (c - i) (G - (i + 1)) ⟨g, i * 3, none⟩ (c - i) (c - i) (X.drop i) (by rw [hdl]; show _ = min _ _; omega) (by rw [hdl]; omega) (by have := (hX2.drop i).flat; rwa [Nat.zero_add] at this)
  have O3 := rown_lay O2d (i + 1) (X.drop i) (by omega) (by rw [hdl]; omega)
  have HB : Hid (Below w.heap.size w (W2.drew.setCells w.heap.size ((i + 1) * 3) ((X.drop i).flatMap ic))) := (goes_set (own := fun k => k = w.heap.size) (goes_of_below (own := fun k => k = w.heap.size) B2.drew) (.inl rfl) _ _).below (Nat.le_refl _) (fun k hk => by omega)
  have HO : Hid (OwnIt (W2.drew.setCells w.heap.size ((i + 1) * 3) ((X.drop i).flatMap ic)) base (.slice (some ⟨w.heap.size, 0, none⟩) (c + 1) G) (X.take i ++ b :: X.drop i)) := by
    rw [hsl] at O3
    have e : (X.take i ++ b :: X.drop i).length = c + 1 := by simp; omega
    rw [e] at O3
    exact O3
  generalize (X.drop i).flatMap ic = xs at *
  generalize (X.drop i).length = q at *
  have b1 : (0 : Int) ≤ (i : Int) := by omega
  have b2 : (i : Int) ≤ (c : Int) := by omega
  have b3 : ((i : Int) == (c : Int)) = false := by rw [beq_eq_false_iff_ne]; omega
  have b4 : ¬ (c = i) := by omega
  have b5 : ¬ (G = i) := by omega
  have b5' : ¬ (G = i + 1) := by omega
  have b6 : (c : Int) ≤ 2000 := by omega
  have b7 : (c : Int) < (c : Int) + 1 := by omega
  have b8 : (i : Int) + 1 ≤ (c : Int) + 1 := by omega
  have hGm' : (G : Int) ≤ 9223372036854775807 := by unfold maxLen at hGm; omega
  clear hh h3 h1 h2 hg h4 O1 O2 O2d O3 h hd hsl hvd hv hdl htl hn hgl hX2 hY B1 B2 hik hGm hGge hvg
  go_enter Try.func67, Try.ntmps67
  go_wp2_with (at_builtin; refine Lib.wpList_append_run _ rfl _ _ _ _ rfl _ _ rfl rfl _ _ (hrz _) ?_)
  go_region
  go_wp2_with fail
  go_ret
  exact ⟨G, rfl, HO.out, HB.out⟩

theorem rinsert_any (w : World) (base : Nat) (v : Value) (i vb : Nat) (X : List Rw) (b : Rw) (h : OwnIt w base v X) (hv : ROne w vb b) (hvg : v.ownBlock ≠ some vb) (hl : X.length ≤ 2000) (hi : i ≤ X.length) (hbase : base ≤ w.heap.size) :
    Calls Try.prog 67 #[v, .int .i64 (i : Int), .slice (some ⟨vb, 0, none⟩) 1 1] w fun e w' => ∃ v', e = .returned v' ∧ OwnIt w' base v' (X.take i ++ b :: X.drop i) ∧ Goes (ownB v) w w' (ownB v') := by
  obtain ⟨a, c, rfl, hp, hg, h1, h2⟩ := h.at_
  rcases Nat.lt_or_ge i X.length with hlt | hge
  · obtain ⟨g, c', e, _⟩ := h.some (by omega)
    injection e with e1 e2 e3
    subst e1
    have hvg' : vb ≠ g := fun e => hvg (by rw [e]; rfl)
    rcases Nat.lt_or_ge c (X.length + 1) with hc | hc
    · refine (rinsert_grow w base g c X.length i vb X b rfl h hv hl hlt hc hbase).mono ?_
      rintro r w' ⟨G, rfl, ho, hb⟩
      exact ⟨_, rfl, ho, hb.os, hb.tape, hb.output, hb.size, fun k hk _ => hb.block k hk, fun k hk => .inr (by have e : w.heap.size = k := Option.some.inj hk; omega)⟩
    · refine (rinsert_shift w base g c X.length i vb X b rfl h hv hvg' hl hlt hc).mono ?_
      rintro r w' ⟨rfl, ho, hb⟩
      refine ⟨_, rfl, ho, hb.os, hb.tape, hb.output, hb.size, fun k hk hn => hb.block k hk (fun e => hn (by rw [e]; rfl)), fun k hk => .inl ?_⟩
      have e : g = k := Option.some.inj hk
      rw [← e]; rfl
  · obtain rfl : i = X.length := by omega
    have := rinsert_end w base a c X.length vb X b rfl h hv hl hbase h1
    rw [List.take_length, List.drop_length]
    exact this

end Go.Proofs.Ytjoaedkgjnchoan.PLock
