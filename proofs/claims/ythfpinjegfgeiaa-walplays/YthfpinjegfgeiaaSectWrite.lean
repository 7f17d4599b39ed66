/- A disk of sectors: Write. -/
import Derived.Test.YthfpinjegfgeiaaSectRun
import Derived.Deep.WholeRow
import Derived.Deep.RegionLaw
import Derived.Lib.BufferRead
namespace Go.Proofs.Ythfpinjegfgeiaa
open Go Go.RowKit
set_option maxRecDepth 100000

def SD.has (d : SD) (a : Int) : Bool := decide (0 ≤ a) && decide (a < d.n)
def SD.write (d : SD) (a : Int) (t : ByteArray) : Int × SD :=
  if d.has a = false then (1, d) else if 64 < t.size then (2, d) else if d.down then (13, d) else (0, { d.burn with seen := d.burn.seen.set a.toNat (pad t), loose := d.burn.loose ++ [(a.toNat, pad t)] })

def zwr : Array Value := (Value.int .i64 0 :: List.replicate 64 (Value.int .u8 0)).toArray
theorem Sect.info63 : (Try.prog.info? 101).map (fun i => (i.zero, i.size, i.bytes)) = some (some (.agg zwr), 65, 72) := by kernel_rfl
theorem Sect.zero63 : (Try.prog.info? 101).map (fun i => (i.zero, i.size)) = some (some (.agg zwr), 65) := by kernel_rfl
theorem zwr_size : zwr.size = 65 := by rw [zwr, List.size_toArray, List.length_cons, List.length_replicate]
theorem zwr_set (k : Nat) : zwr.setIfInBounds 0 (.int .i64 (k : Int)) = (wcell (k, zeros 64)).toArray := by
  rw [zwr, wcell, bc_zeros]
  rfl
theorem wcell_one (x : Nat × ByteArray) : ∀ v ∈ wcell x, v.oneCell' = true := by
  intro v hv
  rcases List.mem_cons.1 hv with rfl | hv
  · rfl
  · exact bc_one _ v hv
theorem wcell_len (x : Nat × ByteArray) (h : x.2.size = 64) : (wcell x).length = 65 := by simp [wcell, bc_len, h]

theorem pad_cells (k : Nat) (t : ByteArray) : (wcell (k, zeros 64)).take 1 ++ bc t ++ (wcell (k, zeros 64)).drop (1 + t.size) = wcell (k, pad t) := by
  unfold wcell
  simp only [List.take_succ_cons, List.take_zero, bc_zeros, bc_pad]
  rw [show 1 + t.size = t.size + 1 by omega, List.drop_succ_cons, List.drop_replicate]
  rfl

/-- What the walk is given ahead of it: the new Write is laid into a block of its own. -/
structure Lay (zw Z C : Array Value) (k : Nat) (t : ByteArray) : Prop where
  zero : ∀ W, (zeroValue 101).run Try.prog W = .ok (.agg zw) W
  ne : zw ≠ #[]
  size : zw.size = 65
  st : ∀ W : World, (storeCells ⟨W.heap.size, 0, none⟩ (zw.toList.set 0 (.int .i64 (k : Int)))).run Try.prog (W.alloc (.cells zw 101)) = .ok () (W.alloc (.cells Z 101))
  cp : ∀ W : World, (Builtin.copy_ #[72, 9] 3 #[.slice (some ⟨W.heap.size, 1, none⟩) 64 64, .string t]).run Try.prog (W.alloc (.cells Z 101)) = .ok (goInt t.size) (W.alloc (.cells C 101))
theorem lay_any (k : Nat) (t : ByteArray) (ht : t.size ≤ 64) : Lay zwr (wcell (k, zeros 64)).toArray (wcell (k, pad t)).toArray k t where
  zero := (zero_of_info Sect.zero63).1
  ne := by intro e; have := zwr_size; rw [e] at this; simp at this
  size := zwr_size
  st := by
    intro W
    have hl : (wcell (k, zeros 64)).toArray.size = 65 := by rw [List.size_toArray]; exact wcell_len _ (zeros_size 64)
    have e := run_storeCells_new (P := Try.prog) W 101 zwr (wcell (k, zeros 64)).toArray (by rw [hl]; exact Sect.size63) (by rw [hl]; exact zwr_size) (all_oneCell_toArray (wcell_one _))
    rw [← zwr_set, Array.toList_setIfInBounds] at e
    rw [e, zwr_set]
  cp := by
    intro W
    have hl : (wcell (k, zeros 64)).length = 65 := wcell_len _ (zeros_size 64)
    have e := Lib.run_copy_row_string (P := Try.prog) (W.alloc (.cells (wcell (k, zeros 64)).toArray 101)) 72 9 3 5 W.heap.size 1 64 64 t (wcell (k, zeros 64)).toArray 101 Try.underlying72 (by rfl) (heap_alloc_new W _) ht (by rw [List.size_toArray, hl]; omega)
    rw [e, World.setRow_alloc_new]
    have := pad_cells k t
    rw [show Lib.byteCells t.data.toList = bc t from rfl]
    simp only [this]

/-- The sector number k is written. -/
theorem DiskAt.put {w : World} {p : DP} {d : SD} (h : DiskAt w p d) (k : Nat) (hk : k < d.n) (x : ByteArray) (hx : x.size = 64) :
    DiskAt (w.setCells p.bq (k * 64) (bc x)) p { d with seen := d.seen.set k x } := by
  have e64 : ∀ y ∈ d.seen, (bc y).length = 64 := fun y hy => by rw [bc_len]; exact h.ok.seen64 y hy
  have e := setCells_eq_setRow Try.prog w p.bq (k * 64) _ _ (bc x) h.hq (by
    rw [bc_len, hx, List.size_toArray, sec_len h.ok.seen64]
    have : k < d.seen.length := hk
    omega) (bc_one x)
  rw [List.toList_toArray, bc_len, hx, ← flat_set d.seen e64 k x hk (by rw [bc_len, hx])] at e
  rw [e]
  have en : SD.n { d with seen := d.seen.set k x } = d.n := by simp [SD.n]
  exact {
    hd := by rw [setRow_other _ _ _ _ h.n2, en]; exact h.hd
    hs := by rw [setRow_other _ _ _ _ h.n3]; exact h.hs
    hq := setRow_heap w _ _ _ _ _ h.hq
    hl := ownsRow_of_block h.hl (fun g hg => setRow_other _ _ _ _ (h.nl g (by rw [ownBlock_slice] at hg; exact hg)).2.2)
    n1 := h.n1
    n2 := h.n2
    n3 := h.n3
    nl := h.nl
    ok := ⟨by rw [en]; exact h.ok.len, by rw [en]; exact h.ok.small, h.ok.safe64, by
        intro y hy
        rcases List.mem_or_eq_of_mem_set hy with hy | rfl
        · exact h.ok.seen64 y hy
        · exact hx, by rw [en]; exact h.ok.loose64, h.ok.left0, h.ok.leftM⟩ }

theorem heap_setCells (b : Nat) : ∀ (vs : List Value) (o : Nat) (w : World) (k : Nat), k ≠ b → (w.setCells b o vs).heap[k]? = w.heap[k]?
  | [], _, _, _, _ => rfl
  | v :: r, o, w, k, h => by rw [World.setCells, heap_setCells b r (o + 1) _ k h, Below.heap_setCell _ _ _ _ h]
theorem goes_setCells (b : Nat) {a c : Nat → Prop} : ∀ (vs : List Value) (o : Nat) (w w1 : World), Goes a w w1 c → (a b ∨ w.heap.size ≤ b) → Goes a w (w1.setCells b o vs) c
  | [], _, _, _, h, _ => h
  | v :: r, o, w, _, h, hb => goes_setCells b r (o + 1) w _ (h.setCell (q := ⟨b, o, none⟩) hb v) hb

/-- The disk, and beside it the new Write in a block of its own. -/
structure Side (p : DP) (d : SD) (nb : Nat) (C : List Value) (W : World) : Prop where
  at_ : ∃ d', DiskAt W p d' ∧ d'.n = d.n
  blk : W.heap[nb]? = some (.cells C.toArray 101 (0, 0))
  far : ¬ p.own nb
theorem Side.drew {p : DP} {d : SD} {nb : Nat} {C : List Value} {W : World} (h : Side p d nb C W) : Side p d nb C W.drew := ⟨by obtain ⟨d', h1, h2⟩ := h.at_; exact ⟨d', h1.drew, h2⟩, h.blk, h.far⟩
theorem Side.c1 {p : DP} {d : SD} {nb : Nat} {C : List Value} {W : World} (h : Side p d nb C W) : W.cell? ⟨p.b, 1, none⟩ = some (.slice (some ⟨p.bq, 0, none⟩) d.n d.n) := by
  obtain ⟨d', h1, h2⟩ := h.at_
  rw [← h2]; exact h1.c1
theorem Side.range {p : DP} {d : SD} {nb : Nat} {W : World} {k : Nat} {x : ByteArray} (h : Side p d nb (wcell (k, x)) W) : W.rangeAt nb 1 (bc x) :=
  range_of_row h.blk 1 _ (fun j v hv => by simp only [wcell]; rw [show 1 + j = j + 1 by omega, List.getElem?_cons_succ]; exact hv)
theorem Side.there {p : DP} {d : SD} {nb : Nat} {C : List Value} {W : World} (h : Side p d nb C W) (k : Nat) (hk : k < d.n) : W.there p.bq (k * 64) 64 := by
  obtain ⟨d', h1, h2⟩ := h.at_
  refine there_of_row h1.hq _ _ ?_
  rw [List.size_toArray, sec_len h1.ok.seen64]
  have : k < d'.seen.length := by show k < d'.n; omega
  omega
theorem Side.put {p : DP} {d : SD} {nb : Nat} {C : List Value} {W : World} (h : Side p d nb C W) (k : Nat) (hk : k < d.n) (x : ByteArray) (hx : x.size = 64) : Side p d nb C (W.setCells p.bq (k * 64) (bc x)) := by
  obtain ⟨d', h1, h2⟩ := h.at_
  refine ⟨⟨_, h1.put k (by omega) x hx, by rw [← h2]; simp [SD.n]⟩, ?_, h.far⟩
  rw [heap_setCells _ _ _ _ _ (fun e => h.far (.inr (.inr (.inl e))))]
  exact h.blk

/-- A load of a whole Write, kept from the walk's opening it cell by cell. -/
def load63 (v : Value) : Sem Value := Instr.loadAt 101 v
theorem load63_pre (v : Value) : Instr.loadAt 101 v = load63 v := rfl
theorem run_load63 (W : World) (b o : Nat) (cs : List Value) (h : W.rangeAt b o cs) (hl : cs.length = 65) : (load63 (.pointer (some ⟨b, o, none⟩))).run Try.prog W = .ok (.agg cs.toArray) W :=
  run_loadAt_mid W b o 101 cs _ h Try.underlying101 rfl (by rw [hl]; exact Sect.size63)
attribute [local go_sem ↓] load63_pre

/-- A slice of one Write, kept from the walk's opening it cell by cell. -/
def slice63 (n : Nat) (parts : Array (Nat × Value)) : Sem Value := Instr.buildSlice 77 n parts
theorem slice63_pre (n : Nat) (parts : Array (Nat × Value)) : Instr.buildSlice 77 n parts = slice63 n parts := rfl
theorem run_slice63 (W : World) (C : List Value) (hl : C.length = 65) : (slice63 1 #[(0, .agg C.toArray)]).run Try.prog W = .ok (.slice (some ⟨W.heap.size, 0, none⟩) 1 1) (W.alloc (.cells C.toArray 101)) := by
  obtain ⟨i0, hi, hz0, hz1, hz2⟩ := info_parts Sect.info63
  exact run_buildSlice_one W 77 101 i0 (.agg zwr) Try.underlying77 hi hz0 C (by rw [hz1, hl]) (by omega) (by omega)
attribute [local go_sem ↓] slice63_pre

/-- append, as a step of a region that draws its order. -/
theorem step_append_far {P : Program} {ops : Array Oper} {o : Oper} {a : Act} {w : World} {K : Act → World → Prop} {Q : Exit → Act → World → Prop} {E : Prop} (hgd : o.guard = none) (s x : Operand) (t : TypeId)
    (ho : o.op = .call { callee := .builtin .append, args := #[s, x], argTypes := #[t, t] })
    (base : Nat) (e : TypeId) (i : TypeInfo) (z : Value) (size bytes : Nat) (ht : P.underlying t = some (.slice e)) (hi : P.info? e = some i) (hz : i.zero = some z)
    (hsize : i.size = size) (hby : i.bytes = bytes) (hzs : z.cells.size = size) (hsz : 0 < size)
    (v : Value) (n : Nat) (xs : List Value) (hs : a.eval s = v) (hown : w.ownsRow base e size v n xs)
    (ad : Addr) (m c : Nat) (news : List Value) (hx : a.eval x = .slice (some ad) m c) (hl : news.length = m * size) (hnews : ∀ j u, news[j]? = some u → w.cell? (ad.add j) = some u) (h1 : ∀ u ∈ news, u.oneCell' = true)
    (hm : 0 < m) (h63 : n + m ≤ maxLen) (hbytes : ((n + m) + (n + m) / 4 + 192) * bytes ≤ 281474976710656) (hbase : base ≤ w.heap.size)
    (h : ∀ g cap w', w'.ownsRow base e size (.slice (some ⟨g, 0, none⟩) (n + m) cap) (n + m) (xs ++ news) → w.grownBy w' v.ownBlock → (v.ownBlock = some g ∨ g = w.heap.size) → g < w'.heap.size → K (a.put o.dst (.slice (some ⟨g, 0, none⟩) (n + m) cap)) w') :
    if Region.wanted o (yielded ops a.tmps) = true then Oper.wp P o a w K Q else E := by
  have hw : Region.wanted o (yielded ops a.tmps) = true := by simp [Region.wanted, hgd]
  rw [if_pos hw]
  obtain ⟨g, cap, w', hr, h2, h3, h4, h5⟩ := run_append_far (P := P) w base t o.type e i z size bytes ht hi hz hsize hby hzs hsz v n xs hown ad m c news hl hnews h1 hm h63 hbytes hbase
  unfold Oper.wp execOp
  simp only [ho, resolve, invoke, builtin, Sem.run_bind, Sem.run_pure, Result.andThen_ok, List.map_toArray, List.map_cons, List.map_nil, hs, hx, hr]
  exact h g cap w' h2 h3 h4 h5

/-- One Write more is loose. -/
theorem DiskAt.push {w w5 : World} {p : DP} {d : SD} (h : DiskAt w p d) (x : Nat × ByteArray) (hx : x.1 < d.n ∧ x.2.size = 64) (g cap : Nat)
    (hb : ∀ k, k = p.b ∨ k = p.bs ∨ k = p.bq → w5.heap[k]? = w.heap[k]?) (hown : w5.ownsRow 0 101 65 (.slice (some ⟨g, 0, none⟩) (d.loose.length + 1) cap) (d.loose.length + 1) (d.loose.flatMap wcell ++ wcell x))
    (hg : g ≠ p.b ∧ g ≠ p.bs ∧ g ≠ p.bq) :
    DiskAt (w5.setCell ⟨p.b, 2, none⟩ (.slice (some ⟨g, 0, none⟩) (d.loose.length + 1) cap)) ⟨p.b, p.bs, p.bq, some ⟨g, 0, none⟩, cap⟩ { d with loose := d.loose ++ [x] } := by
  have h5 := (hb p.b (.inl rfl)).trans h.hd
  rw [setCell_eq_setRow w5 p.b 2 _ _ _ _ h5]
  exact {
    hd := by rw [setRow_heap w5 _ _ _ _ _ h5]; simp; rfl
    hs := by rw [setRow_other _ _ _ _ (Ne.symm h.n1), hb _ (.inr (.inl rfl))]; exact h.hs
    hq := by rw [setRow_other _ _ _ _ (Ne.symm h.n2), hb _ (.inr (.inr rfl))]; exact h.hq
    hl := by
      simp only [List.length_append, List.length_cons, List.length_nil, Nat.zero_add, List.flatMap_append, List.flatMap_cons, List.flatMap_nil, List.append_nil]
      refine ownsRow_of_block hown (fun k hk => setRow_other _ _ _ _ ?_)
      obtain rfl : g = k := by simpa [Value.ownBlock] using hk
      exact hg.1
    n1 := h.n1
    n2 := h.n2
    n3 := h.n3
    nl := by
      intro k hk
      obtain rfl : g = k := by simpa [DP.lo] using hk
      exact hg
    ok := ⟨h.ok.len, h.ok.small, h.ok.safe64, h.ok.seen64, by
        intro y hy
        rcases List.mem_append.1 hy with hy | hy
        · exact h.ok.loose64 y hy
        · rw [List.mem_singleton.1 hy]; exact hx, h.ok.left0, h.ok.leftM⟩ }

/-- append of one Write to what is loose, all in one. -/
theorem push_all {w0 w : World} {p : DP} {d : SD} (h : DiskAt w p d) (g0 : Goes p.own w0 w p.own) (x : Nat × ByteArray) (hx : x.1 < d.n ∧ x.2.size = 64) (o : Obj) (g cap : Nat) (w5 : World)
    (hown : w5.ownsRow 0 101 65 (.slice (some ⟨g, 0, none⟩) (d.loose.length + 1) cap) (d.loose.length + 1) (d.loose.flatMap wcell ++ wcell x))
    (hgrow : (w.alloc o).drew.grownBy w5 (Value.slice p.la d.loose.length p.lc).ownBlock) (hat : (Value.slice p.la d.loose.length p.lc).ownBlock = some g ∨ g = (w.alloc o).drew.heap.size) :
    w5.cell? ⟨p.b, 2, none⟩ = some (.slice p.la d.loose.length p.lc) ∧ w5.frozen? ⟨p.b, 2, none⟩ = false ∧
    Hid (DiskAt (w5.setCell ⟨p.b, 2, none⟩ (.slice (some ⟨g, 0, none⟩) (d.loose.length + 1) cap)) ⟨p.b, p.bs, p.bq, some ⟨g, 0, none⟩, cap⟩ { d with loose := d.loose ++ [x] } ∧
    Goes p.own w0 (w5.setCell ⟨p.b, 2, none⟩ (.slice (some ⟨g, 0, none⟩) (d.loose.length + 1) cap)) (DP.own ⟨p.b, p.bs, p.bq, some ⟨g, 0, none⟩, cap⟩)) := by
  rw [ownBlock_slice] at hgrow hat
  have sz : (w.alloc o).drew.heap.size = w.heap.size + 1 := by simp
  have hb : ∀ k, k = p.b ∨ k = p.bs ∨ k = p.bq → w5.heap[k]? = w.heap[k]? := by
    intro k hk
    have hlt : k < w.heap.size := h.own_lt k (by rcases hk with e | e | e; exact .inl e; exact .inr (.inl e); exact .inr (.inr (.inl e)))
    rw [hgrow.block k (by rw [sz]; omega) (fun e => by
      obtain ⟨a1, a2, a3⟩ := h.nl k e.symm
      rcases hk with e | e | e
      · exact a1 e
      · exact a2 e
      · exact a3 e)]
    exact Below.heap_alloc w o k hlt
  have hbb := hb p.b (.inl rfl)
  refine ⟨by rw [World.cell?_of_block (w := w) (a := ⟨p.b, 2, none⟩) hbb]; exact h.c2, by rw [World.frozen?_of_block (w := w) (a := ⟨p.b, 2, none⟩) hbb]; exact h.fz 2, ?_⟩
  have hg : g ≠ p.b ∧ g ≠ p.bs ∧ g ≠ p.bq := by
    rcases hat with e | e
    · exact h.nl g e
    · have a1 := h.own_lt p.b (.inl rfl)
      have a2 := h.own_lt p.bs (.inr (.inl rfl))
      have a3 := h.own_lt p.bq (.inr (.inr (.inl rfl)))
      rw [sz] at e
      omega
  refine ⟨h.push x hx g cap hb hown hg, ?_⟩
  have g1 := ((g0.alloc o).drew.grown hgrow (fun k hk => .inl (.inr (.inr (.inr hk))))).setCell (q := ⟨p.b, 2, none⟩) (.inl (.inl rfl)) (.slice (some ⟨g, 0, none⟩) (d.loose.length + 1) cap)
  refine ⟨g1.os, g1.tape, g1.output, g1.size, g1.block, ?_⟩
  rintro k (hk | hk | hk | hk)
  · exact .inl (.inl hk)
  · exact .inl (.inr (.inl hk))
  · exact .inl (.inr (.inr (.inl hk)))
  · obtain rfl : g = k := by simpa [DP.lo] using hk
    rcases hat with e | e
    · exact .inl (.inr (.inr (.inr e)))
    · right
      have := g0.size
      rw [e, sz]
      omega

set_option maxHeartbeats 2000000 in
theorem write_ok (w : World) (p : DP) (d : SD) (h : DiskAt w p d) (k : Nat) (hk : k < d.n) (t : ByteArray) (ht : t.size ≤ 64) (hd : d.down = false)
    (hroom : ((d.loose.length + 1) + (d.loose.length + 1) / 4 + 192) * 72 ≤ 281474976710656) : Calls Try.prog 51 #[.pointer (some ⟨p.b, 0, none⟩), .int .i64 (k : Int), .string t] w fun e w' =>
    ∃ p' : DP, p'.b = p.b ∧ e = .returned (.int .i64 0) ∧ DiskAt w' p' { d.burn with seen := d.burn.seen.set k (pad t), loose := d.burn.loose ++ [(k, pad t)] } ∧ Goes p.own w w' p'.own := by
  have H1 := has_any w p d h k
  have e1 : (decide ((0 : Int) ≤ (k : Int)) && decide ((k : Int) < d.n)) = true := by simp; omega
  rw [e1] at H1
  have H2 := step_any w p d h
  rw [hd] at H2
  simp only [Bool.not_false, Bool.false_eq_true, if_false] at H2
  have en : d.burn.n = d.n := by unfold SD.burn; split <;> rfl
  have el : d.burn.loose = d.loose := by unfold SD.burn; split <;> rfl
  rw [← en] at hk
  rw [← el] at hroom
  have H1' := hid H1
  have H2' := hid H2
  have t1 : decide ((64 : Int) < (t.size : Int)) = false := by simp; omega
  have t2 : decide (64 < t.size) = false := by simp; omega
  have hps := pad_size t ht
  have LY := lay_any k t ht
  clear H1 H2 e1 en el hd h
  generalize d.burn = d1 at *
  obtain ⟨zw, hzw⟩ : ∃ zw, zw = zwr := ⟨_, rfl⟩
  obtain ⟨Z, hZ⟩ : ∃ Z, Z = (wcell (k, zeros 64)).toArray := ⟨_, rfl⟩
  obtain ⟨C, hC⟩ : ∃ C, C = wcell (k, pad t) := ⟨_, rfl⟩
  obtain ⟨x, hx⟩ : ∃ x, x = pad t := ⟨_, rfl⟩
  rw [← hzw, ← hZ, ← hC] at LY
  rw [← hx] at hC hps ⊢
  obtain ⟨hz, hne, hzs, hst, hcp⟩ := LY
  clear hzw hZ hx
  have HC := hid hC
  clear hC
  have k0 : (0 : Int) ≤ (k : Int) := by omega
  have k1 : (k : Int) < d1.n := by omega
  go_enter Try.func51, Try.ntmps51
  go_wp2_with fail
  refine H1'.out.mono ?_
  rintro r w1 ⟨rfl, rfl⟩
  go_wp2_with fail
  refine H2'.out.mono ?_
  rintro r w2 ⟨rfl, h2, g2⟩
  go_wp2_with fail
  have h3 := h2.alloc (.cells C.toArray 101)
  have g3 := g2.alloc (.cells C.toArray 101)
  have b3 : (w2.alloc (.cells C.toArray 101)).heap[w2.heap.size]? = some (.cells C.toArray 101 (0, 0)) := heap_alloc_new w2 _
  have f3 : ¬ p.own w2.heap.size := fun e => by have := h2.own_lt _ e; omega
  have f3' : w1.heap.size ≤ w2.heap.size := g2.size
  generalize w2.heap.size = nb at *
  generalize w2.alloc (.cells C.toArray 101) = w3 at *
  have s3 : Side p d1 nb (wcell (k, x)) w3 := ⟨⟨d1, h3, rfl⟩, by rw [← HC.out]; exact b3, f3⟩
  have s3' := s3.drew
  have hu := Try.underlying84
  obtain ⟨cs, hcs⟩ : ∃ cs, cs = bc x := ⟨_, rfl⟩
  have hcl : cs.length = 64 := by rw [hcs, bc_len, hps]
  have hc1 : ∀ v ∈ cs, v.oneCell' = true := by rw [hcs]; exact bc_one x
  have hi : (Try.prog.info? 84).map (·.size) = some cs.length := by rw [Sect.size61, hcl]
  have SR : Hid (∀ W, Side p d1 nb (wcell (k, x)) W → W.rangeAt nb 1 cs) := by rw [hcs]; exact fun W h => h.range
  have SP : Hid (∀ W, Side p d1 nb (wcell (k, x)) W → Side p d1 nb (wcell (k, x)) (W.setCells p.bq (k * 64) cs)) := by rw [hcs]; exact fun W h => h.put k hk x hps
  have ST : Hid (∀ W, Side p d1 nb (wcell (k, x)) W → W.there p.bq (k * 64) 64) := fun W h => h.there k hk
  have HCS := hid hcs
  clear hcs
  have H3 := hid h3
  have G3 := hid g3
  have B3 := hid b3
  clear h3 g3 b3 h2 g2
  go_region_held3 (fun W => W.cell? ⟨p.b, 1, none⟩ = some (.slice (some ⟨p.bq, 0, none⟩) d1.n d1.n) ∧ W.rangeAt nb 1 cs ∧ W.there p.bq (k * 64) 64 ∧ Side p d1 nb (wcell (k, x)) W)
    (first | (go_split_ands; exact ⟨by assumption, by assumption, by assumption, by assumption⟩) | (go_split_ands; have X := Side.drew (by assumption); exact ⟨X.c1, SR.out _ X, ST.out _ X, X⟩) | (go_split_ands; have X := SP.out _ (by assumption); exact ⟨X.c1, SR.out _ X, ST.out _ X, X⟩) | exact ⟨s3'.c1, SR.out _ s3', ST.out _ s3', s3'⟩ | exact ⟨s3.c1, SR.out _ s3, ST.out _ s3, s3⟩) (fail)
  have h4 : DiskAt (w3.drew.setCells p.bq (k * 64) cs) p { d1 with seen := d1.seen.set k x } := by rw [HCS.out]; exact H3.out.drew.put k hk x hps
  have g4 : Goes p.own w1 (w3.drew.setCells p.bq (k * 64) cs) p.own := goes_setCells p.bq cs (k * 64) w1 _ G3.out.drew (.inl (.inr (.inr (.inl rfl))))
  have b4 : (w3.drew.setCells p.bq (k * 64) cs).heap[nb]? = some (.cells C.toArray 101 (0, 0)) := by rw [heap_setCells _ _ _ _ _ (fun e => f3 (.inr (.inr (.inl e))))]; exact B3.out
  clear SR SP ST s3 s3' H3 G3 B3 hu hi hcl hc1 HCS
  generalize w3.drew.setCells p.bq (k * 64) cs = w4 at *
  clear hz hne hzs hst hcp
  have c2 := h4.c2
  have f2 := h4.fz 2
  have pb := h4.own_lt p.b (.inl rfl)
  have c2a : ∀ o, (w4.alloc o).cell? ⟨p.b, 2, none⟩ = some (.slice p.la d1.loose.length p.lc) := fun o => by rw [World.cell?_alloc_past _ _ _ pb]; exact c2
  have f2a : ∀ o, (w4.alloc o).frozen? ⟨p.b, 2, none⟩ = false := fun o => by rw [World.frozen?_alloc_past _ _ _ pb]; exact f2
  have L4 : ∀ W : World, W.heap[nb]? = some (.cells C.toArray 101 (0, 0)) → (load63 (.pointer (some ⟨nb, 0, none⟩))).run Try.prog W = .ok (.agg C.toArray) W := fun W hW =>
    run_load63 W nb 0 C (range_of_row hW 0 C (fun j v hv => by simpa using hv)) (by rw [HC.out]; exact wcell_len _ hps)
  have hCl : C.length = 65 := by rw [HC.out]; exact wcell_len _ hps
  have bs : ∀ W : World, (slice63 1 #[(0, .agg C.toArray)]).run Try.prog W = .ok (.slice (some ⟨W.heap.size, 0, none⟩) 1 1) (W.alloc (.cells C.toArray 101)) := fun W => run_slice63 W C hCl
  have l1 := L4 w4 b4
  have l2 := L4 w4.drew b4
  obtain ⟨i0, hi, hz0, hz1, hz2⟩ := info_parts Sect.info63
  have I1 := hid hi
  have I2 := hid hz0
  have I3 := hid hz1
  have I4 := hid hz2
  have OW : Hid ((w4.alloc (.cells C.toArray 101)).drew.ownsRow 0 101 65 (.slice p.la d1.loose.length p.lc) d1.loose.length (d1.loose.flatMap wcell)) := (h4.hl.alloc _ : (w4.alloc (.cells C.toArray 101)).ownsRow 0 101 65 (.slice p.la d1.loose.length p.lc) d1.loose.length (d1.loose.flatMap wcell))
  have NW : Hid (∀ j u, C[j]? = some u → (w4.alloc (.cells C.toArray 101)).drew.cell? ((⟨w4.heap.size, 0, none⟩ : Addr).add j) = some u) := by
    intro j u hu
    rw [Addr.add_mid]
    exact (cell_of_row (w4.alloc (.cells C.toArray 101)) _ _ _ _ _ (heap_alloc_new w4 _)).trans (by simpa using hu)
  have ON : Hid (∀ u ∈ C, u.oneCell' = true) := by rw [HC.out]; exact wcell_one _
  have PA : Hid (∀ (g cap : Nat) (w5 : World), w5.ownsRow 0 101 65 (.slice (some ⟨g, 0, none⟩) (d1.loose.length + 1) cap) (d1.loose.length + 1) (d1.loose.flatMap wcell ++ C) → (w4.alloc (.cells C.toArray 101)).drew.grownBy w5 (Value.slice p.la d1.loose.length p.lc).ownBlock → ((Value.slice p.la d1.loose.length p.lc).ownBlock = some g ∨ g = (w4.alloc (.cells C.toArray 101)).drew.heap.size) → _) :=
    fun g cap w5 a1 a2 a3 => push_all h4 g4 (k, x) ⟨by simpa [SD.n] using hk, hps⟩ (.cells C.toArray 101) g cap w5 (by rw [HC.out] at a1; exact a1) a2 a3
  clear h4 g4 b4 L4 hi hz0 hz1 hz2
  go_wp2_with fail
  go_region_law ((refine step_append_far (by rfl) _ _ _ (by rfl) 0 101 i0 (.agg zwr) 65 72 Try.underlying77 I1.out I2.out I3.out I4.out zwr_size (by omega) _ d1.loose.length (d1.loose.flatMap wcell) (by rfl) OW.out ⟨w4.heap.size, 0, none⟩ 1 1 C (by rfl) (by rw [hCl]) NW.out ON.out (by omega) (by unfold maxLen; omega) hroom (Nat.zero_le _) ?_; intro g cap w5 a1 a2 a3 a4; obtain ⟨q1, q2, q3⟩ := PA.out g cap w5 a1 a2 a3; clear a1 a2 a3))
  all_goals (go_wp2; go_ret; exact ⟨⟨p.b, p.bs, p.bq, some ⟨g, 0, none⟩, cap⟩, rfl, rfl, q3.out.1, q3.out.2⟩)

set_option maxHeartbeats 1000000 in
theorem write_any (w : World) (p : DP) (d : SD) (h : DiskAt w p d) (a : Int) (t : ByteArray)
    (hroom : ((d.loose.length + 1) + (d.loose.length + 1) / 4 + 192) * 72 ≤ 281474976710656) : Calls Try.prog 51 #[.pointer (some ⟨p.b, 0, none⟩), .int .i64 a, .string t] w fun e w' =>
    ∃ p' : DP, p'.b = p.b ∧ e = .returned (.int .i64 (d.write a t).1) ∧ DiskAt w' p' (d.write a t).2 ∧ Goes p.own w w' p'.own := by
  cases ha : d.has a
  · have e1 : d.write a t = (1, d) := by unfold SD.write; rw [if_pos ha]
    have H1 := has_any w p d h a
    rw [show (decide (0 ≤ a) && decide (a < d.n)) = false from ha] at H1
    rw [e1]
    have H1' := hid H1
    have hh := hid h
    clear H1 h ha e1
    go_enter Try.func51, Try.ntmps51
    go_wp2_with fail
    refine H1'.out.mono ?_
    rintro r w1 ⟨rfl, rfl⟩
    go_wp2
    all_goals (go_ret; exact ⟨p, rfl, rfl, hh.out, Goes.refl _ _⟩)
  · by_cases ht : 64 < t.size
    · have e1 : d.write a t = (2, d) := by unfold SD.write; rw [ha, if_neg (by simp), if_pos ht]
      have H1 := has_any w p d h a
      rw [show (decide (0 ≤ a) && decide (a < d.n)) = true from ha] at H1
      rw [e1]
      have H1' := hid H1
      have hh := hid h
      have t1 : decide ((64 : Int) < (t.size : Int)) = true := by simp; omega
      have t2 : decide (64 < t.size) = true := by simp; omega
      clear H1 h ha e1
      go_enter Try.func51, Try.ntmps51
      go_wp2_with fail
      refine H1'.out.mono ?_
      rintro r w1 ⟨rfl, rfl⟩
      go_wp2
      all_goals (go_ret; exact ⟨p, rfl, rfl, hh.out, Goes.refl _ _⟩)
    · cases hd : d.down
      · have hb : 0 ≤ a ∧ a < d.n := by simpa [SD.has] using ha
        obtain ⟨k, rfl⟩ : ∃ k : Nat, a = k := ⟨a.toNat, by omega⟩
        have e1 : d.write k t = (0, { d.burn with seen := d.burn.seen.set k (pad t), loose := d.burn.loose ++ [(k, pad t)] }) := by unfold SD.write; rw [ha, if_neg (by simp), if_neg ht, hd, if_neg (by simp)]; rfl
        rw [e1]
        exact write_ok w p d h k (by omega) t (by omega) hd hroom
      · have e1 : d.write a t = (13, d) := by unfold SD.write; rw [ha, if_neg (by simp), if_neg ht, hd, if_pos rfl]
        have H1 := has_any w p d h a
        rw [show (decide (0 ≤ a) && decide (a < d.n)) = true from ha] at H1
        have H2 := step_any w p d h
        rw [hd] at H2
        simp only [Bool.not_true, if_true] at H2
        rw [e1]
        have H1' := hid H1
        have H2' := hid H2
        have t1 : decide ((64 : Int) < (t.size : Int)) = false := by simp; omega
        have t2 : decide (64 < t.size) = false := by simp; omega
        clear H1 H2 h ha e1 hd
        go_enter Try.func51, Try.ntmps51
        go_wp2_with fail
        refine H1'.out.mono ?_
        rintro r w1 ⟨rfl, rfl⟩
        go_wp2_with fail
        refine H2'.out.mono ?_
        rintro r w2 ⟨rfl, h2, g2⟩
        have h2 := hid h2
        have g2 := hid g2
        go_wp2
        all_goals (go_ret; exact ⟨p, rfl, rfl, h2.out, g2.out⟩)

end Go.Proofs.Ythfpinjegfgeiaa
