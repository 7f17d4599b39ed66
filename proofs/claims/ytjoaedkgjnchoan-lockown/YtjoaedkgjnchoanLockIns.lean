/- Go's slices.Insert of one block, walked: it answers what the plain lists say, in a row of one's own; no other block turns. Conditions: how many locks there are. -/
import Derived.Test.YtjoaedkgjnchoanLockLib
import Derived.Deep.RegionLaw
namespace Go.Proofs.Ytjoaedkgjnchoan.PLock
open Go Go.RowKit PPool
set_option maxRecDepth 100000

/-- The block that is handed in, in memory of its own. -/
def OneAt (w : World) (vb : Nat) (b : Lk.Lo) : Prop := w.heap[vb]? = some (.cells #[.int .i64 b.x, .int .i64 b.m] 62 (0, 0))
theorem OneAt.at_ {w : World} {vb : Nat} {b : Lk.Lo} (h : OneAt w vb b) : LkAt w (some ⟨vb, 0, none⟩) [b] := fun j x hj => by
  match j, hj with
  | 0, hj =>
    cases hj
    exact ⟨vb, 0, rfl, by rw [cell_of_row w _ _ _ _ _ h]; rfl, by rw [cell_of_row w _ _ _ _ _ h]; rfl⟩
theorem OneAt.lt {w : World} {vb : Nat} {b : Lk.Lo} (h : OneAt w vb b) : vb < w.heap.size := lt_of_heap h

set_option maxHeartbeats 1000000 in
theorem insert_end (w : World) (base : Nat) (a : Option Addr) (c n vb : Nat) (X : List Lk.Lo) (b : Lk.Lo) (hn : X.length = n) (h : OwnLk w base (.slice a n c) X) (hv : OneAt w vb b) (hl : n ≤ 2000) (hbase : base ≤ w.heap.size) (hc : n ≤ c) :
    Calls Try.prog 71 #[.slice a n c, .int .i64 (n : Int), .slice (some ⟨vb, 0, none⟩) 1 1] w fun e w' => ∃ v', e = .returned v' ∧ OwnLk w' base v' (X ++ [b]) ∧ Goes (ownB (.slice a n c)) w w' (ownB v') := by
  obtain ⟨i0, hi, hz0, hz1, hz2⟩ := info_parts lock_info
  have hsl : ∀ W : World, ∃ V, (Instr.slice 64 (.slice a n c) (some (.int .i64 (n : Int))) none none).run Try.prog W = .ok V W := fun W => by
    have u := Try.underlying64
    have z := Try.sizeOf62
    have k1 : (n : Int) ≤ (c : Int) := by omega
    cases a with
    | none => exact ⟨.slice none 0 (c - n), by go_simp⟩
    | some q => exact ⟨.slice (if c = n then some q else some (q.add (n * 2))) 0 (c - n), by go_simp⟩
  obtain ⟨V, hV⟩ := hsl w
  have H := hid h
  have HV := hid hv
  have HN := hid hn
  have hnl : (n : Int) ≤ 2000 := by omega
  clear h hv hsl hn
  go_enter Try.func71, Try.ntmps71
  go_wp2_with (at_builtin; refine wpList_append_own_at _ rfl _ _ 64 rfl base 62 i0 (.agg #[.int .i64 0, .int .i64 0]) 2 16 Try.underlying64 hi hz0 hz1 hz2 rfl (by decide) _ _ _ rfl H.out ⟨vb, 0, none⟩ 1 1 (lc b) rfl rfl ?qc2 ?qc3 ?qc4 ?qc5 ?qc6 ?_)
  case qc2 =>
    have := HV.out.at_.flat
    simpa using this
  case qc3 => exact lc_one _
  case qc4 => rw [HN.out]; unfold maxLen; omega
  case qc5 => rw [HN.out]; omega
  case qc6 => exact hbase
  intro v' w4 hown hgrow _ hat
  have O5 := hid (OwnLk.grows hown)
  have gg := (Goes.refl (ownB (.slice a n c)) w).grown hgrow (fun k hk => .inl hk)
  have G5 : Hid (Goes (ownB (.slice a n c)) w w4 (ownB v')) := ⟨gg.os, gg.tape, gg.output, gg.size, gg.block, fun g hg => by
    rcases hat with e | e
    · exact gg.grow g (e.symm.trans hg)
    · right
      have e2 : some g = some _ := hg.symm.trans e
      injection e2 with e2
      omega⟩
  clear hown hgrow gg hat
  go_wp2
  go_ret
  exact ⟨v', rfl, O5.out, G5.out⟩

theorem shift_lay {X : List Lk.Lo} {b : Lk.Lo} {i n : Nat} (hn : X.length = n) (hi : i < n) :
    (X.take (i + 1) ++ X.drop i ++ X.drop (i + 1 + (X.drop i).length)).take i ++ [b] ++ (X.take (i + 1) ++ X.drop i ++ X.drop (i + 1 + (X.drop i).length)).drop (i + [b].length) = X.take i ++ b :: X.drop i := by
  have e1 : X.drop (i + 1 + (X.drop i).length) = [] := List.drop_of_length_le (by rw [List.length_drop]; omega)
  have l1 : (X.take (i + 1)).length = i + 1 := by rw [List.length_take]; omega
  rw [e1, List.append_nil, List.take_append_of_le_length (by omega), List.take_take, Nat.min_eq_left (by omega), List.length_singleton, List.drop_append_of_le_length (by omega), List.drop_of_length_le (by omega)]
  simp

set_option maxHeartbeats 1000000 in
theorem insert_shift (w : World) (base g c n i vb : Nat) (X : List Lk.Lo) (b : Lk.Lo) (hn : X.length = n) (h : OwnLk w base (.slice (some ⟨g, 0, none⟩) n c) X) (hv : OneAt w vb b) (hvg : vb ≠ g) (hl : n ≤ 2000) (hi : i < n) (hc : n + 1 ≤ c) :
    Calls Try.prog 71 #[.slice (some ⟨g, 0, none⟩) n c, .int .i64 (i : Int), .slice (some ⟨vb, 0, none⟩) 1 1] w fun e w' => e = .returned (.slice (some ⟨g, 0, none⟩) (n + 1) c) ∧ OwnLk w' base (.slice (some ⟨g, 0, none⟩) (n + 1) c) (X.take i ++ b :: X.drop i) ∧ Goes (fun k => k = g) w w' (fun k => k = g) := by
  obtain ⟨cur, hh, h3, hx4, h1, h2, hg, h4⟩ := own_block h
  clear hx4
  have hgl := lt_of_heap hh
  have u := Try.underlying64
  have z := Try.sizeOf62
  have hcm : (c : Int) ≤ 9223372036854775807 := by unfold maxLen at h2; omega
  have hnc : (n : Int) + 1 ≤ (c : Int) := by omega
  have hdl : (X.drop i).length = n - i := by rw [List.length_drop]; omega
  have hov : ∀ lb cb, (callFunc 84 #[.slice (some ⟨vb, 0, none⟩) 1 1, .slice (some ⟨g, (i + 1) * 2, none⟩) lb cb]).run Try.prog w = .ok (.value (.bool false)) w := fun lb cb => by
    rw [run_callFunc_extern Try.func84 (by kernel_rfl) (by kernel_rfl) (by kernel_rfl) (e := Extern.SlicesOverlaps.overlaps #[64, 64] #[4]) (by kernel_rfl),
      Lib.run_overlaps_apart w 64 4 62 Try.underlying64 2 Try.sizeOf62 ⟨vb, 0, none⟩ ⟨g, (i + 1) * 2, none⟩ 1 1 lb cb hvg 62 62 2 (c * 2) (by unfold World.shape?; rw [hv]; rfl) (by unfold World.shape?; rw [hh]; simp [h3]) (by omega) (by simp [World.frozen?, show w.heap[vb]? = _ from hv]) (by simp [World.frozen?, show w.heap[vb]? = _ from hv])]
    rfl
  have hd : OwnLk w.drew base (.slice (some ⟨g, 0, none⟩) n c) X := h.keep fun _ _ => rfl
  have c1 : ∀ ty, (Builtin.copy_ #[64, 64] ty #[.slice (some ⟨g, (i + 1) * 2, none⟩) (n - i) (c - (i + 1)), .slice (some ⟨g, i * 2, none⟩) (n + 1 - i) (c - i)]).run Try.prog w.drew = .ok (goInt (X.drop i).length) (w.drew.setCells g ((i + 1) * 2) ((X.drop i).flatMap lc)) := fun ty =>
    run_copy_lk hd ty (i + 1) (n - i) (c - (i + 1)) ⟨g, i * 2, none⟩ (n + 1 - i) (c - i) (X.drop i) (by rw [hdl]; show _ = min _ _; omega) (by rw [hdl]; omega) (by have := ((own_lk hd).drop i).flat; rwa [Nat.zero_add] at this)
  have O1 := own_lay hd (i + 1) (X.drop i) (by omega) (by rw [hdl]; omega)
  have G1 : Goes (fun k => k = g) w (w.drew.setCells g ((i + 1) * 2) ((X.drop i).flatMap lc)) (fun k => k = g) := goes_lay (Goes.refl _ w).drew _ _
  have hsl := shift_lay (b := b) hn hi
  have hlen : (X.take (i + 1) ++ X.drop i ++ X.drop (i + 1 + (X.drop i).length)).length = n + 1 := by simp; omega
  generalize X.take (i + 1) ++ X.drop i ++ X.drop (i + 1 + (X.drop i).length) = Y at *
  have hvd : OneAt (w.drew.setCells g ((i + 1) * 2) ((X.drop i).flatMap lc)) vb b := (G1.block vb hv.lt hvg).trans hv
  generalize w.drew.setCells g ((i + 1) * 2) ((X.drop i).flatMap lc) = W1 at *
  have c2 : ∀ ty, (Builtin.copy_ #[64, 64] ty #[.slice (some ⟨g, i * 2, none⟩) (n + 1 - i) (c - i), .slice (some ⟨vb, 0, none⟩) 1 1]).run Try.prog W1 = .ok (goInt 1) (W1.setCells g (i * 2) ([b].flatMap lc)) := fun ty =>
    run_copy_lk O1 ty i (n + 1 - i) (c - i) ⟨vb, 0, none⟩ 1 1 [b] (by show 1 = min _ _; omega) (by show i + 1 ≤ c; omega) hvd.at_.flat
  have O2 := own_lay O1 i [b] (by omega) (by show i + 1 ≤ c; omega)
  have HO : Hid (OwnLk (W1.setCells g (i * 2) ([b].flatMap lc)) base (.slice (some ⟨g, 0, none⟩) (n + 1) c) (X.take i ++ b :: X.drop i)) := by
    rw [hsl] at O2
    have e : (X.take i ++ b :: X.drop i).length = n + 1 := by simp; omega
    rw [e] at O2
    exact O2
  have HG := hid (goes_lay G1 (i * 2) ([b].flatMap lc))
  generalize [b].flatMap lc = zs at *
  have b1 : (0 : Int) ≤ (i : Int) := by omega
  have b2 : (i : Int) ≤ (n : Int) := by omega
  have b3 : ((i : Int) == (n : Int)) = false := by rw [beq_eq_false_iff_ne]; omega
  have b4 : ¬ (c = i) := by omega
  have b5 : ¬ (c = i + 1) := by omega
  have b6 : (n : Int) ≤ 2000 := by omega
  have b7 : ¬ ((c : Int) < (n : Int) + 1) := by omega
  have b8 : (i : Int) + 1 ≤ (n : Int) + 1 := by omega
  generalize (X.drop i).length = q at *
  clear hh h3 h1 h2 hg h4 O1 O2 G1 h hd hsl hlen hvd hv hdl hn hgl
  go_enter Try.func71, Try.ntmps71
  go_wp2_with (simp only [hov])
  go_region
  go_wp2_with fail
  go_ret
  exact ⟨rfl, HO.out, HG.out⟩

theorem grow_lay {X : List Lk.Lo} {b : Lk.Lo} {i n : Nat} (hn : X.length = n) (hi : i < n) :
    ((X.take i ++ List.replicate (n + 1 - i) Lk.zero').take i ++ [b] ++ (X.take i ++ List.replicate (n + 1 - i) Lk.zero').drop (i + [b].length)).take (i + 1) ++ X.drop i ++ ((X.take i ++ List.replicate (n + 1 - i) Lk.zero').take i ++ [b] ++ (X.take i ++ List.replicate (n + 1 - i) Lk.zero').drop (i + [b].length)).drop (i + 1 + (X.drop i).length) = X.take i ++ b :: X.drop i := by
  have l1 : (X.take i).length = i := by rw [List.length_take]; omega
  have e1 : (X.take i ++ List.replicate (n + 1 - i) Lk.zero').take i = X.take i := List.take_left' l1
  rw [e1]
  have l2 : (X.take i ++ [b]).length = i + 1 := by rw [List.length_append, l1]; rfl
  rw [List.take_left' l2, List.drop_of_length_le (i := i + 1 + (X.drop i).length)]
  · simp
  · simp
    omega

set_option maxHeartbeats 1000000 in
theorem insert_grow (w : World) (base g c n i vb : Nat) (X : List Lk.Lo) (b : Lk.Lo) (hn : X.length = n) (h : OwnLk w base (.slice (some ⟨g, 0, none⟩) n c) X) (hv : OneAt w vb b) (hl : n ≤ 2000) (hi : i < n) (hc : c < n + 1) (hbase : base ≤ w.heap.size) :
    Calls Try.prog 71 #[.slice (some ⟨g, 0, none⟩) n c, .int .i64 (i : Int), .slice (some ⟨vb, 0, none⟩) 1 1] w fun e w' => ∃ G, e = .returned (.slice (some ⟨w.heap.size, 0, none⟩) (n + 1) G) ∧ OwnLk w' base (.slice (some ⟨w.heap.size, 0, none⟩) (n + 1) G) (X.take i ++ b :: X.drop i) ∧ Below w.heap.size w w' := by
  obtain ⟨cur, hh, h3, hx4, h1, h2, hg, h4⟩ := own_block h
  obtain rfl : c = n := by omega
  clear hx4
  have hgl := lt_of_heap hh
  obtain ⟨i0, hi0, hz0, hz1, hz2⟩ := info_parts lock_info
  have u := Try.underlying64
  have u3 := Try.underlying3
  have z := Try.sizeOf62
  have hdl : (X.drop i).length = c - i := by rw [List.length_drop]; omega
  have htl : (X.take i).length = i := by rw [List.length_take]; omega
  have hd : OwnLk w.drew base (.slice (some ⟨g, 0, none⟩) c c) X := h.keep fun _ _ => rfl
  have hold : (Builtin.firstCells i0.size i (.slice (some ⟨g, 0, none⟩) i c)).run Try.prog w.drew = .ok ((X.take i).flatMap lc).toArray w.drew := by
    rw [hz1]
    exact run_firstCells_some w.drew 2 i ⟨g, 0, none⟩ i c ((X.take i).flatMap lc) (by rw [lk_len, htl]) ((own_lk hd).take i).flat
  obtain ⟨G, hG⟩ : ∃ G, G = grownCap w (c + 1) c 62 := ⟨_, rfl⟩
  have hGge : c + 1 ≤ G := by rw [hG]; exact grownCap_ge w _ _ _
  have hGm : G ≤ maxLen := by rw [hG]; exact grownCap_le_maxLen w (c + 1) c _ (by unfold maxLen; omega)
  have hkk : (c : Int) + 1 - (i : Int) = ((c + 1 - i : Nat) : Int) := by omega
  have hik : i + (c + 1 - i) = c + 1 := by omega
  have hrz : ∀ ty, (Builtin.append_ #[64, 3] ty #[.slice (some ⟨g, 0, none⟩) i c, .int .i64 ((c : Int) + 1 - (i : Int))]).run Try.prog w = .ok (.slice (some ⟨w.heap.size, 0, none⟩) (c + 1) G) (w.drew.alloc (.cells (((X.take i).flatMap lc).toArray ++ Builtin.zeroCells (Value.agg #[.int .i64 0, .int .i64 0]).cells (c + 1 - i) ++ Builtin.zeroCells (Value.agg #[.int .i64 0, .int .i64 0]).cells (G - (c + 1))) 62)) := fun ty => by
    have hr := Lib.run_append_grow_zeros (P := Try.prog) w 64 3 ty 62 i0 _ .i64 .i64 u u3 hi0 hz0 (some ⟨g, 0, none⟩) i c ((X.take i).flatMap lc) hold (c + 1 - i) (by omega) (by omega) (by omega) (by omega) (by rw [hz2]; omega) (by rw [hz2, hik]; exact growslice_fits (by omega) (by omega))
    rw [hik, ← hG] at hr
    rw [hkk]
    exact hr
  obtain ⟨W1, hW1⟩ : ∃ W1, W1 = w.drew.alloc (.cells (((X.take i).flatMap lc).toArray ++ Builtin.zeroCells (Value.agg #[.int .i64 0, .int .i64 0]).cells (c + 1 - i) ++ Builtin.zeroCells (Value.agg #[.int .i64 0, .int .i64 0]).cells (G - (c + 1))) 62) := ⟨_, rfl⟩
  rw [← hW1] at hrz
  have O1 : OwnLk W1 base (.slice (some ⟨w.heap.size, 0, none⟩) (c + 1) G) (X.take i ++ List.replicate (c + 1 - i) Lk.zero') := by
    have hl1 : (X.take i ++ List.replicate (c + 1 - i) Lk.zero').length = c + 1 := by rw [List.length_append, htl, List.length_replicate]; omega
    have hl2 := lk_len (X.take i ++ List.replicate (c + 1 - i) Lk.zero')
    rw [List.flatMap_append] at hl2
    refine ⟨by rw [lk_len], .inr ⟨w.heap.size, G, _, by rw [hl1], hbase, by rw [hW1]; exact heap_alloc_new w.drew _, by omega, hGm, ?_, ?_⟩⟩
    · rw [zero_cells, zero_cells, Array.size_append, Array.size_append, List.size_toArray, List.size_toArray, List.size_toArray, ← List.length_append, hl2, hl1, lk_len, List.length_replicate]
      omega
    · rw [hl1, zero_cells, zero_cells, List.flatMap_append]
      simp only [List.append_toArray]
      rw [List.take_left' (by rw [hl2, hl1])]
  have B1 : Below w.heap.size w W1 := by rw [hW1]; exact (Below.refl _ w).drew.alloc (Nat.le_refl _) _
  clear hW1 hold hi0 hz0 hz1 hz2 hG hkk
  have hvd : OneAt W1 vb b := (B1.block vb hv.lt).trans hv
  have hvg : vb < w.heap.size := hv.lt
  have c1 : ∀ ty, (Builtin.copy_ #[64, 64] ty #[.slice (some ⟨w.heap.size, i * 2, none⟩) (c + 1 - i) (G - i), .slice (some ⟨vb, 0, none⟩) 1 1]).run Try.prog W1 = .ok (goInt 1) (W1.setCells w.heap.size (i * 2) ([b].flatMap lc)) := fun ty =>
    run_copy_lk O1 ty i (c + 1 - i) (G - i) ⟨vb, 0, none⟩ 1 1 [b] (by show 1 = min _ _; omega) (by show i + 1 ≤ G; omega) hvd.at_.flat
  have O2 := own_lay O1 i [b] (by simp; omega) (by show i + 1 ≤ G; omega)
  have B2 : Below w.heap.size w (W1.setCells w.heap.size (i * 2) ([b].flatMap lc)) := (goes_set (own := fun k => k = w.heap.size) (goes_of_below (own := fun k => k = w.heap.size) B1) (.inl rfl) _ _).below (Nat.le_refl _) (fun k hk => by omega)
  have hsl := grow_lay (b := b) hn hi
  have hY : ((X.take i ++ List.replicate (c + 1 - i) Lk.zero').take i ++ [b] ++ (X.take i ++ List.replicate (c + 1 - i) Lk.zero').drop (i + [b].length)).length = c + 1 := by simp; omega
  generalize (X.take i ++ List.replicate (c + 1 - i) Lk.zero').take i ++ [b] ++ (X.take i ++ List.replicate (c + 1 - i) Lk.zero').drop (i + [b].length) = Y at *
  generalize W1.setCells w.heap.size (i * 2) ([b].flatMap lc) = W2 at *
  have O2d : OwnLk W2.drew base (.slice (some ⟨w.heap.size, 0, none⟩) Y.length G) Y := O2.keep fun _ _ => rfl
  have hX2 : LkAt W2.drew (some ⟨g, 0, none⟩) X := ((own_lk h).below B2).drew
  have c2 : ∀ ty, (Builtin.copy_ #[64, 64] ty #[.slice (some ⟨w.heap.size, (i + 1) * 2, none⟩) (c - i) (G - (i + 1)), .slice (some ⟨g, i * 2, none⟩) (c - i) (c - i)]).run Try.prog W2.drew = .ok (goInt (X.drop i).length) (W2.drew.setCells w.heap.size ((i + 1) * 2) ((X.drop i).flatMap lc)) := fun ty =>
    run_copy_lk O2d ty (i + 1) (c - i) (G - (i + 1)) ⟨g, i * 2, none⟩ (c - i) (c - i) (X.drop i) (by rw [hdl]; show _ = min _ _; omega) (by rw [hdl]; omega) (by have := (hX2.drop i).flat; rwa [Nat.zero_add] at this)
  have O3 := own_lay O2d (i + 1) (X.drop i) (by omega) (by rw [hdl]; omega)
  have HB : Hid (Below w.heap.size w (W2.drew.setCells w.heap.size ((i + 1) * 2) ((X.drop i).flatMap lc))) := (goes_set (own := fun k => k = w.heap.size) (goes_of_below (own := fun k => k = w.heap.size) B2.drew) (.inl rfl) _ _).below (Nat.le_refl _) (fun k hk => by omega)
  have HO : Hid (OwnLk (W2.drew.setCells w.heap.size ((i + 1) * 2) ((X.drop i).flatMap lc)) base (.slice (some ⟨w.heap.size, 0, none⟩) (c + 1) G) (X.take i ++ b :: X.drop i)) := by
    rw [hsl] at O3
    have e : (X.take i ++ b :: X.drop i).length = c + 1 := by simp; omega
    rw [e] at O3
    exact O3
  generalize (X.drop i).flatMap lc = xs at *
  generalize (X.drop i).length = q at *
  have b1 : (0 : Int) ≤ (i : Int) := by omega
  have b2 : (i : Int) ≤ (c : Int) := by omega
  have b3 : ((i : Int) == (c : Int)) = false := by rw [beq_eq_false_iff_ne]; omega
  have b4 : ¬ (c = i) := by omega
  have b5 : ¬ (G = i) := by omega
  have b5' : ¬ (G = i + 1) := by omega
  have b6 : (c : Int) ≤ 2000 := by omega
  have b7 : (c : Int) < (c : Int) + 1 := by omega
  have b8 : (i : Int) + 1 ≤ (c : Int) + 1 := by omega
  have hGm' : (G : Int) ≤ 9223372036854775807 := by unfold maxLen at hGm; omega
  clear hh h3 h1 h2 hg h4 O1 O2 O2d O3 h hd hsl hvd hv hdl htl hn hgl hX2 hY B1 B2 hik hGm hGge hvg
  go_enter Try.func71, Try.ntmps71
  go_wp2_with (at_builtin; refine Lib.wpList_append_run _ rfl _ _ _ _ rfl _ _ rfl rfl _ _ (hrz _) ?_)
  go_region
  go_wp2_with fail
  go_ret
  exact ⟨G, rfl, HO.out, HB.out⟩

theorem insert_any (w : World) (base : Nat) (v : Value) (i vb : Nat) (X : List Lk.Lo) (b : Lk.Lo) (h : OwnLk w base v X) (hv : OneAt w vb b) (hvg : v.ownBlock ≠ some vb) (hl : X.length ≤ 2000) (hi : i ≤ X.length) (hbase : base ≤ w.heap.size) :
    Calls Try.prog 71 #[v, .int .i64 (i : Int), .slice (some ⟨vb, 0, none⟩) 1 1] w fun e w' => ∃ v', e = .returned v' ∧ OwnLk w' base v' (X.take i ++ b :: X.drop i) ∧ Goes (ownB v) w w' (ownB v') := by
  obtain ⟨a, c, rfl, hp, hg, h1, h2⟩ := h.at_
  rcases Nat.lt_or_ge i X.length with hlt | hge
  · obtain ⟨g, c', e, _⟩ := h.some (by omega)
    injection e with e1 e2 e3
    subst e1
    have hvg' : vb ≠ g := fun e => hvg (by rw [e]; rfl)
    rcases Nat.lt_or_ge c (X.length + 1) with hc | hc
    · refine (insert_grow w base g c X.length i vb X b rfl h hv hl hlt hc hbase).mono ?_
      rintro r w' ⟨G, rfl, ho, hb⟩
      exact ⟨_, rfl, ho, hb.os, hb.tape, hb.output, hb.size, fun k hk _ => hb.block k hk, fun k hk => .inr (by have e : w.heap.size = k := Option.some.inj hk; omega)⟩
    · refine (insert_shift w base g c X.length i vb X b rfl h hv hvg' hl hlt hc).mono ?_
      rintro r w' ⟨rfl, ho, hb⟩
      refine ⟨_, rfl, ho, hb.os, hb.tape, hb.output, hb.size, fun k hk hn => hb.block k hk (fun e => hn (by rw [e]; rfl)), fun k hk => .inl ?_⟩
      have e : g = k := Option.some.inj hk
      rw [← e]; rfl
  · obtain rfl : i = X.length := by omega
    have := insert_end w base a c X.length vb X b rfl h hv hl hbase h1
    rw [List.take_length, List.drop_length]
    exact this

end Go.Proofs.Ytjoaedkgjnchoan.PLock
