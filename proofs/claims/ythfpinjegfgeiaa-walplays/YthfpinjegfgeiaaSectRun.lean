/- A disk of sectors: New, Read, Flush. -/
import Derived.Test.YthfpinjegfgeiaaSectDisk
import Derived.Laws.IdiomStrings
import Derived.Laws.MakeOwn
namespace Go.Proofs.Ythfpinjegfgeiaa
open Go Go.RowKit
set_option maxRecDepth 100000

theorem Sect.size61 : (Try.prog.info? 84).map (·.size) = some 64 := by kernel_rfl
theorem Sect.size63 : (Try.prog.info? 101).map (·.size) = some 65 := by kernel_rfl
def zsec : Array Value := (List.replicate 64 (Value.int .u8 0)).toArray
theorem Sect.info61 : (Try.prog.info? 84).map (fun i => (i.zero, i.size, i.bytes)) = some (some (.agg zsec), 64, 64) := by kernel_rfl
theorem zsec_at (i : Nat) (h : i < 64) : zsec[i]! = .int .u8 0 := by
  have hs : zsec.size = 64 := by simp [zsec]
  have hs_lt : i < (List.replicate 64 (Value.int .u8 0)).toArray.size := by rw [List.size_toArray, List.length_replicate]; exact h
  rw [getElem!_pos zsec i (by omega)]
  have : ∀ (l : List Value) (hl : i < l.toArray.size), (∀ v ∈ l, v = .int .u8 0) → l.toArray[i]'hl = .int .u8 0 := fun l hl h0 => h0 _ (by simp)
  exact this (List.replicate 64 (Value.int .u8 0)) hs_lt (fun v hv => (List.mem_replicate.1 hv).2)

/-! ### Read -/
def SD.read (d : SD) (a : Int) : ByteArray × Int := if 0 ≤ a ∧ a < d.n then (if d.down then (⟨#[]⟩, 13) else (d.seen.getD a.toNat ⟨#[]⟩, 0)) else (⟨#[]⟩, 1)

theorem bc_back (t : ByteArray) : (⟨t.data.toList.toArray⟩ : ByteArray) = t := by cases t; rfl

theorem DiskAt.text {w : World} {p : DP} {d : SD} (h : DiskAt w p d) (k : Nat) (hk : k < d.n) :
    (convert 72 9 (.slice (some ⟨p.bq, k * 64, none⟩) 64 64)).run Try.prog w = .ok (.string (d.seen.getD k ⟨#[]⟩)) w := by
  have hk' : k < d.seen.length := hk
  have e : d.seen.getD k ⟨#[]⟩ = d.seen[k] := by simp [List.getD, List.getElem?_eq_getElem hk']
  rw [e]
  have h64 : d.seen[k].size = 64 := h.ok.seen64 _ (List.getElem_mem hk')
  have hl : d.seen[k].data.toList.length = 64 := by rw [Array.length_toList]; exact h64
  have := run_convert_bytes_back (P := Try.prog) w 72 9 5 ⟨p.bq, k * 64, none⟩ 64 d.seen[k].data.toList Try.underlying72 Try.underlying5 Try.underlying9 (fun j hj => by
    rw [Addr.add_mid, cell_of_row w _ _ _ _ _ h.hq]
    have := flat_at (enc := bc) (c := 64) d.seen (fun t ht => by rw [bc_len]; exact h.ok.seen64 t ht) k d.seen[k] (List.getElem?_eq_getElem hk') j (.int .u8 (d.seen[k].data.toList[j].toNat : Int)) (by unfold bc; rw [List.getElem?_map, List.getElem?_eq_getElem hj]; rfl)
    simpa using this)
  rw [hl, bc_back] at this
  exact this

set_option maxHeartbeats 1000000 in
theorem read_any (w : World) (p : DP) (d : SD) (h : DiskAt w p d) (a : Int) : Calls Try.prog 32 #[.pointer (some ⟨p.b, 0, none⟩), .int .i64 a] w fun e w' => e = .returned (.tuple #[.string (d.read a).1, .int .i64 (d.read a).2]) ∧ w' = w := by
  have H1 : Hid (Calls Try.prog 57 #[.pointer (some ⟨p.b, 0, none⟩), .int .i64 a] w fun e w' => e = .returned (.bool (decide (0 ≤ a) && decide (a < d.n))) ∧ w' = w) := has_any w p d h a
  have H2 : Hid (Calls Try.prog 58 #[.pointer (some ⟨p.b, 0, none⟩)] w fun e w' => e = .returned (.bool d.down) ∧ w' = w) := down_any w p d h
  have c1 := h.c1
  have hsm := h.ok.small
  by_cases ha : 0 ≤ a ∧ a < d.n
  · obtain ⟨k, rfl⟩ : ∃ k : Nat, a = k := ⟨a.toNat, by omega⟩
    have hkn : k < d.n := by omega
    have hx := h.text k hkn
    have e1 : (decide ((0 : Int) ≤ (k : Int)) && decide ((k : Int) < d.n)) = true := by simp; omega
    rw [e1] at H1
    by_cases hd : d.down = true
    · have e2 : d.read k = (⟨#[]⟩, 13) := by unfold SD.read; rw [if_pos ha, if_pos hd]
      rw [e2]
      rw [hd] at H2
      clear h hx e1 e2 hd ha
      go_enter Try.func32, Try.ntmps32
      go_wp2_with fail
      refine H1.out.mono ?_
      rintro r w1 ⟨rfl, rfl⟩
      go_wp2_with fail
      refine H2.out.mono ?_
      rintro r w1 ⟨rfl, rfl⟩
      go_wp2
      all_goals (go_ret2; exact ⟨rfl, rfl⟩)
    · have hd' : d.down = false := by simpa using hd
      have e2 : d.read k = (d.seen.getD k ⟨#[]⟩, 0) := by unfold SD.read; rw [if_pos ha, if_neg hd]; simp
      rw [e2]
      rw [hd'] at H2
      have k0 : (0 : Int) ≤ (k : Int) := by omega
      have k1 : (k : Int) < d.n := by omega
      generalize d.seen.getD k ⟨#[]⟩ = t at hx ⊢
      clear h e1 e2 hd hd' ha
      generalize d.n = n at hsm hkn k1 c1
      go_enter Try.func32, Try.ntmps32
      go_wp2_with fail
      refine H1.out.mono ?_
      rintro r w1 ⟨rfl, rfl⟩
      go_wp2_with fail
      refine H2.out.mono ?_
      rintro r w1 ⟨rfl, rfl⟩
      go_wp2
      all_goals (go_ret2; exact ⟨rfl, rfl⟩)
  · have e1 : (decide ((0 : Int) ≤ a) && decide (a < d.n)) = false := by simp; omega
    have e2 : d.read a = (⟨#[]⟩, 1) := by unfold SD.read; rw [if_neg ha]
    rw [e1] at H1
    rw [e2]
    clear h e1 e2 ha
    go_enter Try.func32, Try.ntmps32
    go_wp2_with fail
    refine H1.out.mono ?_
    rintro r w1 ⟨rfl, rfl⟩
    go_wp2
    all_goals (go_ret2; exact ⟨rfl, rfl⟩)

/-! ### New -/
def SD.fresh (n : Nat) : SD := ⟨List.replicate n (zeros 64), List.replicate n (zeros 64), [], false, 0⟩

theorem made_fresh (n : Nat) : madeCells zsec (n * 64) = ((List.replicate n (zeros 64)).flatMap bc).toArray := by
  have h1 : (List.replicate n (zeros 64)).flatMap bc = List.replicate (n * 64) (.int .u8 0) := by
    induction n with
    | zero => simp
    | succ k ih => rw [List.replicate_succ, List.flatMap_cons, ih, bc_zeros, List.replicate_append_replicate]; congr 1; omega
  rw [h1]
  apply Array.ext
  · simp [madeCells]
  · intro i h2 h3
    have hz : zsec.size = 64 := by simp [zsec]
    simp only [madeCells, Array.getElem_map, Array.getElem_range, hz, List.getElem_toArray, List.getElem_replicate]
    exact zsec_at _ (by omega)

theorem fresh_ok (n : Nat) (h : n ≤ 256) : (SD.fresh n).ok where
  len := by simp [SD.fresh, SD.n]
  small := by simp [SD.fresh, SD.n]; exact h
  safe64 := by intro t ht; rw [(List.mem_replicate.1 ht).2]; exact zeros_size 64
  seen64 := by intro t ht; rw [(List.mem_replicate.1 ht).2]; exact zeros_size 64
  loose64 := by intro x hx; simp [SD.fresh] at hx
  left0 := by simp [SD.fresh]
  leftM := by simp [SD.fresh]

theorem fresh_at (w : World) (n : Nat) (h : n ≤ 256) (x y : Nat) (hx : x = w.heap.size ∨ x = w.heap.size + 1) (hy : y = w.heap.size ∨ y = w.heap.size + 1) (hxy : x ≠ y) {w' : World}
    (hw : w' = ((w.alloc (.cells (madeCells zsec (n * 64)) 84)).alloc (.cells (madeCells zsec (n * 64)) 84)).alloc (.cells #[.slice (some ⟨x, 0, none⟩) n n, .slice (some ⟨y, 0, none⟩) n n, .slice none 0 0, .bool false, .int .i64 0] 79)) :
    DiskAt w' ⟨w.heap.size + 2, x, y, none, 0⟩ (SD.fresh n) ∧ Goes (fun _ => False) w w' (DP.own ⟨w.heap.size + 2, x, y, none, 0⟩) := by
  subst hw
  have en : (SD.fresh n).n = n := by simp [SD.fresh, SD.n]
  have hb : ∀ z, z = w.heap.size ∨ z = w.heap.size + 1 → (((w.alloc (.cells (madeCells zsec (n * 64)) 84)).alloc (.cells (madeCells zsec (n * 64)) 84)).alloc (.cells #[.slice (some ⟨x, 0, none⟩) n n, .slice (some ⟨y, 0, none⟩) n n, .slice none 0 0, .bool false, .int .i64 0] 79)).heap[z]? = some (.cells ((List.replicate n (zeros 64)).flatMap bc).toArray 84 (0, 0)) := by
    rintro z (rfl | rfl)
    · rw [Below.heap_alloc _ _ _ (by simp; omega), Below.heap_alloc _ _ _ (by simp), made_fresh]
      exact heap_alloc_new w _
    · rw [Below.heap_alloc _ _ _ (by simp), made_fresh]
      have := heap_alloc_new (w.alloc (.cells ((List.replicate n (zeros 64)).flatMap bc).toArray 84)) (.cells ((List.replicate n (zeros 64)).flatMap bc).toArray 84)
      rw [show (w.alloc (.cells ((List.replicate n (zeros 64)).flatMap bc).toArray 84)).heap.size = w.heap.size + 1 by simp] at this
      exact this
  refine ⟨⟨?_, hb x hx, hb y hy, World.ownsRow_nil _ _ _ _, ?_, ?_, hxy, ?_, fresh_ok n h⟩, ?_⟩
  · rw [en]
    have := heap_alloc_new ((w.alloc (.cells (madeCells zsec (n * 64)) 84)).alloc (.cells (madeCells zsec (n * 64)) 84)) (.cells #[.slice (some ⟨x, 0, none⟩) n n, .slice (some ⟨y, 0, none⟩) n n, .slice none 0 0, .bool false, .int .i64 0] 79)
    rw [show ((w.alloc (.cells (madeCells zsec (n * 64)) 84)).alloc (.cells (madeCells zsec (n * 64)) 84)).heap.size = w.heap.size + 2 by simp] at this
    exact this
  · show w.heap.size + 2 ≠ x; omega
  · show w.heap.size + 2 ≠ y; omega
  · intro k hk; simp [DP.lo] at hk
  · refine (((Goes.refl _ w).alloc _).alloc _).alloc _ |>.wider (fun _ h => h) |> fun g => ⟨g.os, g.tape, g.output, g.size, g.block, ?_⟩
    rintro k (hk | hk | hk | hk)
    · right; rw [hk]; show w.heap.size ≤ w.heap.size + 2; omega
    · right; rw [hk]; show w.heap.size ≤ x; omega
    · right; rw [hk]; show w.heap.size ≤ y; omega
    · simp [DP.lo] at hk

theorem goes_drew {a b : Nat → Prop} {w w1 : World} (h : Goes a w.drew w1 b) : Goes a w w1 b := ⟨h.os, h.tape, h.output, h.size, h.block, h.grow⟩

set_option maxHeartbeats 2000000 in
theorem new_any (w : World) (n : Int) (hn : 1 ≤ n ∧ n ≤ 256) : Calls Try.prog 27 #[.int .i64 n] w fun e w' =>
    ∃ p : DP, e = .returned (.tuple #[.pointer (some ⟨p.b, 0, none⟩), .int .i64 0]) ∧ DiskAt w' p (SD.fresh n.toNat) ∧ Goes (fun _ => False) w w' p.own := by
  obtain ⟨k, rfl⟩ : ∃ k : Nat, n = k := ⟨n.toNat, by omega⟩
  have hk : k ≤ 256 := by omega
  have hk1 : 1 ≤ k := by omega
  simp only [Int.toNat_natCast]
  obtain ⟨i0, hi, hz0, hz1, hz2⟩ := info_parts Sect.info61
  have hmk : ∀ W, (Instr.makeSlice 76 (.int .i64 (k : Int)) (.int .i64 (k : Int))).run Try.prog W = .ok (.slice (some ⟨W.heap.size, 0, none⟩) k k) (W.alloc (.cells (madeCells zsec (k * 64)) 84)) := by
    intro W
    have := run_make (P := Try.prog) W 76 84 i0 (.agg zsec) Try.underlying76 hi hz0 .i64 .i64 k k (by omega) (by omega) (by rw [hz2]; omega) (by omega)
    rw [hz1] at this
    exact this
  have F : Hid (∀ (W w' : World) (x y : Nat), (x = W.heap.size ∨ x = W.heap.size + 1) → (y = W.heap.size ∨ y = W.heap.size + 1) → x ≠ y → w' = ((W.alloc (.cells (madeCells zsec (k * 64)) 84)).alloc (.cells (madeCells zsec (k * 64)) 84)).alloc (.cells #[.slice (some ⟨x, 0, none⟩) k k, .slice (some ⟨y, 0, none⟩) k k, .slice none 0 0, .bool false, .int .i64 0] 79) → DiskAt w' ⟨W.heap.size + 2, x, y, none, 0⟩ (SD.fresh k) ∧ Goes (fun _ => False) W w' (DP.own ⟨W.heap.size + 2, x, y, none, 0⟩)) := fun W w' x y hx hy hxy hw => fresh_at W k hk x y hx hy hxy hw
  clear hi hz0 hz1 hz2
  go_enter Try.func27, Try.ntmps27
  go_wp2
  go_region
  all_goals (try go_wp2)
  all_goals first
    | (go_ret2; have R := F.out w _ w.heap.size (w.heap.size + 1) (.inl rfl) (.inr rfl) (by omega) rfl; exact ⟨⟨w.heap.size + 2, _, _, none, 0⟩, rfl, R.1.drew, R.2.drew⟩)
    | (go_ret2; have R := F.out w _ (w.heap.size + 1) w.heap.size (.inr rfl) (.inl rfl) (by omega) rfl; exact ⟨⟨w.heap.size + 2, _, _, none, 0⟩, rfl, R.1.drew, R.2.drew⟩)

set_option maxHeartbeats 1000000 in
theorem new_bad (w : World) (n : Int) (hn : ¬ (1 ≤ n ∧ n ≤ 256)) : Calls Try.prog 27 #[.int .i64 n] w fun e w' => e = .returned (.tuple #[.pointer none, .int .i64 1]) ∧ w' = w := by
  by_cases h1 : n < 1
  · have e1 : decide (n < 1) = true := by simpa using h1
    go_enter Try.func27, Try.ntmps27
    go_wp2
    all_goals (go_ret2; exact ⟨rfl, rfl⟩)
  · have h2 : 256 < n := by omega
    have e1 : decide (n < 1) = false := by simpa using h1
    have e2 : decide (256 < n) = true := by simpa using h2
    go_enter Try.func27, Try.ntmps27
    go_wp2
    all_goals (go_ret2; exact ⟨rfl, rfl⟩)

/-! ### Flush -/
def SD.flush (d : SD) : Int × SD := if d.down then (13, d) else (0, { d.burn with safe := d.burn.seen, loose := [] })

theorem sec_len {l : List ByteArray} (h : ∀ t ∈ l, t.size = 64) : (l.flatMap bc).length = l.length * 64 := flat_len l (fun t ht => by rw [bc_len]; exact h t ht)
theorem sec_one (l : List ByteArray) : ∀ v ∈ l.flatMap bc, v.oneCell' = true := by
  intro v hv
  obtain ⟨t, _, h⟩ := List.mem_flatMap.1 hv
  exact bc_one t v h

/-- All that is seen is safe. -/
theorem DiskAt.toSafe {w : World} {p : DP} {d : SD} (h : DiskAt w p d) : DiskAt (w.setRow p.bs (d.seen.flatMap bc).toArray) p { d with safe := d.seen } where
  hd := by rw [setRow_other _ _ _ _ h.n1]; exact h.hd
  hs := setRow_heap w _ _ _ _ _ h.hs
  hq := by rw [setRow_other _ _ _ _ (Ne.symm h.n3)]; exact h.hq
  hl := ownsRow_of_block h.hl (fun g hg => setRow_other _ _ _ _ (h.nl g (by rw [ownBlock_slice] at hg; exact hg)).2.1)
  n1 := h.n1
  n2 := h.n2
  n3 := h.n3
  nl := h.nl
  ok := ⟨rfl, h.ok.small, h.ok.seen64, h.ok.seen64, h.ok.loose64, h.ok.left0, h.ok.leftM⟩
/-- All that is safe is seen. -/
theorem DiskAt.toSeen {w : World} {p : DP} {d : SD} (h : DiskAt w p d) : DiskAt (w.setRow p.bq (d.safe.flatMap bc).toArray) p { d with seen := d.safe } where
  hd := by
    rw [setRow_other _ _ _ _ h.n2]
    have e : SD.n { d with seen := d.safe } = d.n := h.ok.len
    rw [e]
    exact h.hd
  hs := by rw [setRow_other _ _ _ _ h.n3]; exact h.hs
  hq := setRow_heap w _ _ _ _ _ h.hq
  hl := ownsRow_of_block h.hl (fun g hg => setRow_other _ _ _ _ (h.nl g (by rw [ownBlock_slice] at hg; exact hg)).2.2)
  n1 := h.n1
  n2 := h.n2
  n3 := h.n3
  nl := h.nl
  ok := by
    have e : SD.n { d with seen := d.safe } = d.n := h.ok.len
    exact ⟨rfl, by rw [e]; exact h.ok.small, h.ok.safe64, h.ok.safe64, by rw [e]; exact h.ok.loose64, h.ok.left0, h.ok.leftM⟩
/-- No Write is loose any more. -/
theorem DiskAt.toNone {w : World} {p : DP} {d : SD} (h : DiskAt w p d) : DiskAt (w.setCell ⟨p.b, 2, none⟩ (.slice none 0 0)) { p with la := none, lc := 0 } { d with loose := [] } := by
  rw [setCell_eq_setRow w p.b 2 _ _ _ _ h.hd]
  exact {
    hd := setRow_heap w _ _ _ _ _ h.hd
    hs := by rw [setRow_other _ _ _ _ (Ne.symm h.n1)]; exact h.hs
    hq := by rw [setRow_other _ _ _ _ (Ne.symm h.n2)]; exact h.hq
    hl := World.ownsRow_nil _ _ _ _
    n1 := h.n1
    n2 := h.n2
    n3 := h.n3
    nl := by intro k hk; simp [DP.lo] at hk
    ok := ⟨h.ok.len, h.ok.small, h.ok.safe64, h.ok.seen64, by simp, h.ok.left0, h.ok.leftM⟩ }

theorem DiskAt.run_safe {w : World} {p : DP} {d : SD} (h : DiskAt w p d) (ty : TypeId) :
    (Builtin.copy_ #[76, 76] ty #[.slice (some ⟨p.bs, 0, none⟩) d.n d.n, .slice (some ⟨p.bq, 0, none⟩) d.n d.n]).run Try.prog w = .ok (goInt d.n) (w.setRow p.bs (d.seen.flatMap bc).toArray) := by
  have hm : Nat.min d.n d.n = d.n := Nat.min_self _
  have := run_copy_wide (P := Try.prog) w 76 76 ty 84 64 p.bs d.n d.n ⟨p.bq, 0, none⟩ d.n d.n _ _ (d.seen.flatMap bc) Try.underlying76 Sect.size61 h.hs
    (by rw [hm, sec_len h.ok.seen64]; rfl) (fun j v hv => by rw [Addr.add_mid, cell_of_row w _ _ _ _ _ h.hq]; simpa using hv)
    (by rw [sec_len h.ok.seen64, List.size_toArray, sec_len h.ok.safe64, h.ok.len]; rfl) (sec_one _)
  rw [hm] at this
  exact this
theorem DiskAt.run_seen {w : World} {p : DP} {d : SD} (h : DiskAt w p d) (ty : TypeId) :
    (Builtin.copy_ #[76, 76] ty #[.slice (some ⟨p.bq, 0, none⟩) d.n d.n, .slice (some ⟨p.bs, 0, none⟩) d.n d.n]).run Try.prog w = .ok (goInt d.n) (w.setRow p.bq (d.safe.flatMap bc).toArray) := by
  have hm : Nat.min d.n d.n = d.n := Nat.min_self _
  have := run_copy_wide (P := Try.prog) w 76 76 ty 84 64 p.bq d.n d.n ⟨p.bs, 0, none⟩ d.n d.n _ _ (d.safe.flatMap bc) Try.underlying76 Sect.size61 h.hq
    (by rw [hm, sec_len h.ok.safe64, h.ok.len]) (fun j v hv => by rw [Addr.add_mid, cell_of_row w _ _ _ _ _ h.hs]; simpa using hv)
    (by rw [sec_len h.ok.safe64, List.size_toArray, sec_len h.ok.seen64, h.ok.len]; rfl) (sec_one _)
  rw [hm] at this
  exact this

/-- A builtin of two operands at a step of a region that draws its order. -/
theorem step_copy2 {P : Program} {ops : Array Oper} {o : Oper} {a : Act} {w : World} {K : Act → World → Prop} {Q : Exit → Act → World → Prop} {E : Prop} (hgd : o.guard = none) (d s : Operand) (dT sT : TypeId)
    (ho : o.op = .call { callee := .builtin .copy, args := #[d, s], argTypes := #[dT, sT] }) (x y v : Value) (w' : World) (hd : a.eval d = x) (hs : a.eval s = y)
    (hrun : ∀ ty, (Builtin.copy_ #[dT, sT] ty #[x, y]).run P w = .ok v w') (h : K (a.put o.dst v) w') : if Region.wanted o (yielded ops a.tmps) = true then Oper.wp P o a w K Q else E := by
  have hw : Region.wanted o (yielded ops a.tmps) = true := by simp [Region.wanted, hgd]
  rw [if_pos hw]
  unfold Oper.wp
  simp [execOp, ho, resolve, invoke, builtin, hd, hs, hrun, Result.andThen]
  exact h

/-- A world in which the disk's two rows lie, what is seen being as it was. -/
def SeenAs (p : DP) (n : Nat) (q : List ByteArray) (W : World) : Prop := ∃ d, DiskAt W p d ∧ d.seen = q ∧ d.n = n
theorem SeenAs.run {p : DP} {n : Nat} {q : List ByteArray} {W : World} (h : SeenAs p n q W) (ty : TypeId) :
    (Builtin.copy_ #[76, 76] ty #[.slice (some ⟨p.bs, 0, none⟩) n n, .slice (some ⟨p.bq, 0, none⟩) n n]).run Try.prog W = .ok (goInt n) (W.setRow p.bs (q.flatMap bc).toArray) := by
  obtain ⟨d, h, rfl, rfl⟩ := h
  exact h.run_safe ty
theorem SeenAs.drew {p : DP} {n : Nat} {q : List ByteArray} {W : World} (h : SeenAs p n q W) : SeenAs p n q W.drew := by
  obtain ⟨d, h, rfl, rfl⟩ := h
  exact ⟨d, h.drew, rfl, rfl⟩
theorem SeenAs.safe {p : DP} {n : Nat} {q : List ByteArray} {W : World} (h : SeenAs p n q W) : SeenAs p n q (W.setRow p.bs (q.flatMap bc).toArray) := by
  obtain ⟨d, h, rfl, rfl⟩ := h
  exact ⟨_, h.toSafe, rfl, rfl⟩
theorem SeenAs.c0 {p : DP} {n : Nat} {q : List ByteArray} {W : World} (h : SeenAs p n q W) : W.cell? ⟨p.b, 0, none⟩ = some (.slice (some ⟨p.bs, 0, none⟩) n n) := by
  obtain ⟨d, h, rfl, rfl⟩ := h
  exact h.c0
theorem SeenAs.c1 {p : DP} {n : Nat} {q : List ByteArray} {W : World} (h : SeenAs p n q W) : W.cell? ⟨p.b, 1, none⟩ = some (.slice (some ⟨p.bq, 0, none⟩) n n) := by
  obtain ⟨d, h, rfl, rfl⟩ := h
  exact h.c1

set_option maxHeartbeats 2000000 in
theorem flush_any (w : World) (p : DP) (d : SD) (h : DiskAt w p d) : Calls Try.prog 54 #[.pointer (some ⟨p.b, 0, none⟩)] w fun e w' =>
    ∃ p' : DP, p'.b = p.b ∧ e = .returned (.int .i64 d.flush.1) ∧ DiskAt w' p' d.flush.2 ∧ Goes p.own w w' p'.own := by
  have H := step_any w p d h
  cases hd : d.down
  · have e2 : d.flush = (0, { d.burn with safe := d.burn.seen, loose := [] }) := by unfold SD.flush; rw [hd]; rfl
    rw [e2]
    rw [hd] at H
    simp only [Bool.not_false, Bool.false_eq_true, if_false] at H
    have H' := hid H
    clear H e2
    generalize d.burn = d1 at H'
    go_enter Try.func54, Try.ntmps54
    go_wp2_with fail
    refine H'.out.mono ?_
    rintro r w1 ⟨rfl, h1, g1⟩
    have s00 : SeenAs p d1.n d1.seen w1 := ⟨d1, h1, rfl, rfl⟩
    have s0 := s00.drew
    go_wp2_with fail
    go_region_held3 (fun W => W.cell? ⟨p.b, 0, none⟩ = some (.slice (some ⟨p.bs, 0, none⟩) d1.n d1.n) ∧ W.cell? ⟨p.b, 1, none⟩ = some (.slice (some ⟨p.bq, 0, none⟩) d1.n d1.n) ∧ SeenAs p d1.n d1.seen W)
      (first | (go_split_ands; exact ⟨by assumption, by assumption, by assumption⟩) | (go_split_ands; have X := SeenAs.drew (by assumption); exact ⟨X.c0, X.c1, X⟩) | (go_split_ands; have X := SeenAs.safe (by assumption); exact ⟨X.c0, X.c1, X⟩) | exact ⟨s0.c0, s0.c1, s0⟩ | exact ⟨s00.c0, s00.c1, s00⟩)
      ((refine step_copy2 (by rfl) _ _ _ _ (by rfl) _ _ _ _ (by rfl) (by rfl) (fun ty => SeenAs.run (by go_split_ands; assumption) ty) ?_))
    have h2 := h1.drew.toSafe
    have g2 : Goes p.own w (w1.drew.setRow p.bs (List.flatMap bc d1.seen).toArray) p.own := g1.drew.setRow (.inl (.inr (.inl rfl))) _
    generalize (w1.drew.setRow p.bs (List.flatMap bc d1.seen).toArray) = w2 at *
    clear g1 h1 s0 s00
    have c2 := h2.c2
    have f2 := h2.fz 2
    have h3 := hid h2.toNone
    have g3 : Hid (Goes p.own w (w2.setCell ⟨p.b, 2, none⟩ (.slice none 0 0)) (DP.own { p with la := none, lc := 0 })) := (g2.setCell (.inl (.inl rfl)) _).same (by rintro k (hk | hk | hk | hk); exact .inl hk; exact .inr (.inl hk); exact .inr (.inr (.inl hk)); simp [DP.lo] at hk)
    clear h2 g2
    go_wp2
    all_goals (go_ret; exact ⟨{ p with la := none, lc := 0 }, rfl, rfl, h3.out, g3.out⟩)
  · have e2 : d.flush = (13, d) := by unfold SD.flush; rw [hd]; rfl
    rw [e2]
    rw [hd] at H
    simp only [Bool.not_true, if_true] at H
    have H' := hid H
    clear H e2 hd h
    go_enter Try.func54, Try.ntmps54
    go_wp2_with fail
    refine H'.out.mono ?_
    rintro r w1 ⟨rfl, h1, g1⟩
    have h1 := hid h1
    have g1 := hid g1
    go_wp2
    all_goals (go_ret; exact ⟨p, rfl, rfl, h1.out, g1.out⟩)

end Go.Proofs.Ythfpinjegfgeiaa
