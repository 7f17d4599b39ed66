/- Memory and lists for a disk of sectors: rows of fixed width, what a store of many cells leaves, and what is kept. -/
import Derived.WalkKit
import Derived.Deep.MidRow
import Derived.Deep.DeepAppendWide
import Derived.Maps.AppendAt
namespace Go.Proofs.YtbgcldckgiiedacDoor
open Go Go.RowKit
set_option maxRecDepth 100000

theorem hid {q : Prop} (h : q) : Hid q := h

/-! ### Rows of fixed width -/
section flat
variable {α : Type} {enc : α → List Value} {c : Nat}

theorem flat_len : ∀ (l : List α), (∀ x ∈ l, (enc x).length = c) → (l.flatMap enc).length = l.length * c
  | [], _ => by simp
  | x :: r, h => by
    have h1 := h x (by simp)
    have h2 := flat_len r (fun y hy => h y (by simp [hy]))
    simp only [List.flatMap_cons, List.length_append, h1, h2, List.length_cons, Nat.add_mul, Nat.one_mul]
    omega

theorem flat_at : ∀ (l : List α), (∀ x ∈ l, (enc x).length = c) → ∀ (k : Nat) (x : α), l[k]? = some x → ∀ j v, (enc x)[j]? = some v → (l.flatMap enc)[k * c + j]? = some v
  | [], _, k, x, hx, _, _, _ => by simp at hx
  | y :: r, h, 0, x, hx, j, v, hv => by
    simp at hx
    subst hx
    have hj : j < (enc y).length := (List.getElem?_eq_some_iff.1 hv).1
    simp only [List.flatMap_cons, Nat.zero_mul, Nat.zero_add, List.getElem?_append_left hj, hv]
  | y :: r, h, k + 1, x, hx, j, v, hv => by
    have h1 := h y (by simp)
    have ih := flat_at r (fun z hz => h z (by simp [hz])) k x (by simpa using hx) j v hv
    simp only [List.flatMap_cons]
    rw [List.getElem?_append_right (by rw [h1, Nat.add_mul]; omega), h1]
    rw [← ih]
    congr 1
    rw [Nat.add_mul]
    omega

theorem flat_set : ∀ (l : List α), (∀ x ∈ l, (enc x).length = c) → ∀ (k : Nat) (x : α), k < l.length → (enc x).length = c →
    (l.set k x).flatMap enc = (l.flatMap enc).take (k * c) ++ enc x ++ (l.flatMap enc).drop (k * c + c)
  | [], _, k, x, hk, _ => by simp at hk
  | y :: r, h, 0, x, _, hx => by
    have h1 := h y (by simp)
    simp only [List.set_cons_zero, List.flatMap_cons, Nat.zero_mul, List.take_zero, List.nil_append, Nat.zero_add]
    rw [List.drop_append_of_le_length (by omega), List.drop_of_length_le (by omega), List.nil_append]
  | y :: r, h, k + 1, x, hk, hx => by
    have h1 := h y (by simp)
    have ih := flat_set r (fun z hz => h z (by simp [hz])) k x (by simpa using hk) hx
    simp only [List.set_cons_succ, List.flatMap_cons, ih]
    have e1 : (k + 1) * c = (enc y).length + k * c := by rw [h1, Nat.add_mul]; omega
    rw [e1, List.take_length_add_append, show (enc y).length + k * c + c = (enc y).length + (k * c + c) by omega, List.drop_length_add_append]
    simp [List.append_assoc]
end flat

/-! ### Bytes -/
/-- A text's bytes as cells. -/
def bc (t : ByteArray) : List Value := t.data.toList.map fun b => Value.int .u8 (b.toNat : Int)
theorem bc_len (t : ByteArray) : (bc t).length = t.size := by unfold bc; rw [List.length_map, Array.length_toList]; rfl
theorem bc_one (t : ByteArray) : ∀ v ∈ bc t, v.oneCell' = true := by
  intro v hv
  unfold bc at hv
  obtain ⟨b, _, rfl⟩ := List.mem_map.1 hv
  rfl
/-- k noughts. -/
def zeros (k : Nat) : ByteArray := ⟨(List.replicate k (0 : UInt8)).toArray⟩
theorem zeros_size (k : Nat) : (zeros k).size = k := by unfold zeros; show (List.replicate k (0 : UInt8)).toArray.size = k; simp
theorem bc_zeros (k : Nat) : bc (zeros k) = List.replicate k (.int .u8 0) := by simp [bc, zeros]
/-- A text, and noughts behind it up to 64. -/
def pad (t : ByteArray) : ByteArray := t ++ zeros (64 - t.size)
theorem pad_size (t : ByteArray) (h : t.size ≤ 64) : (pad t).size = 64 := by unfold pad; rw [ByteArray.size_append, zeros_size]; omega
theorem bc_append (a b : ByteArray) : bc (a ++ b) = bc a ++ bc b := by
  have h : (a ++ b).data = a.data ++ b.data := ByteArray.data_append
  unfold bc
  rw [h, Array.toList_append, List.map_append]
theorem bc_pad (t : ByteArray) : bc (pad t) = bc t ++ List.replicate (64 - t.size) (.int .u8 0) := by unfold pad; rw [bc_append, bc_zeros]

/-! ### What many cells leave -/
theorem setCells_eq_setRow (P : Program) (w : World) (g o : Nat) (cur : Array Value) (t : TypeId) (vs : List Value) (hg : w.heap[g]? = some (.cells cur t (0, 0))) (hfit : o + vs.length ≤ cur.size)
    (h1 : ∀ v ∈ vs, v.oneCell' = true) : w.setCells g o vs = w.setRow g (cur.toList.take o ++ vs ++ cur.toList.drop (o + vs.length)).toArray := by
  have a := run_storeCells_at P g o t vs 0 cur w hg (by omega) h1
  have b := run_storeCells_cells (P := P) g o vs 0 w (fun j hj => by rw [cell_of_row w g _ cur t _ hg]; simp; omega) (fun j hj => by simp [World.frozen?, hg]) h1
  rw [a] at b
  simp only [Nat.add_zero] at b
  exact (Result.ok.inj b).2.symm

theorem there_of_row {w : World} {g : Nat} {cur : Array Value} {t : TypeId} (hg : w.heap[g]? = some (.cells cur t (0, 0))) (o n : Nat) (h : o + n ≤ cur.size) : w.there g o n := fun j hj =>
  ⟨by rw [cell_of_row w g _ cur t _ hg]; simp; omega, by simp [World.frozen?, hg]⟩
theorem range_of_row {w : World} {g : Nat} {cur : Array Value} {t : TypeId} {fr : Nat × Nat} (hg : w.heap[g]? = some (.cells cur t fr)) (o : Nat) (cs : List Value) (h : ∀ j v, cs[j]? = some v → cur.toList[o + j]? = some v) : w.rangeAt g o cs := fun j v hv => by
  rw [cell_of_row w g _ cur t _ hg]
  simpa using h j v hv

theorem heap_setRow_size (w : World) (g : Nat) (cs : Array Value) : (w.setRow g cs).heap.size = w.heap.size := by simp [World.setRow]

theorem lt_of_heap {w : World} {g : Nat} {o : Obj} (h : w.heap[g]? = some o) : g < w.heap.size := (Array.getElem?_eq_some_iff.1 h).1

/-! ### What is kept: all blocks but one's own; what is owned behind it was owned, or is new -/
structure Goes (own : Nat → Prop) (w w' : World) (own' : Nat → Prop) : Prop where
  os : w'.os = w.os
  tape : w'.tape = w.tape
  output : w'.output = w.output
  size : w.heap.size ≤ w'.heap.size
  block : ∀ k, k < w.heap.size → ¬ own k → w'.heap[k]? = w.heap[k]?
  grow : ∀ k, own' k → own k ∨ w.heap.size ≤ k

theorem Goes.refl (own : Nat → Prop) (w : World) : Goes own w w own := ⟨rfl, rfl, rfl, Nat.le_refl _, fun _ _ _ => rfl, fun _ h => .inl h⟩
theorem Goes.trans {a b c : Nat → Prop} {w w1 w2 : World} (h : Goes a w w1 b) (k : Goes b w1 w2 c) : Goes a w w2 c :=
  ⟨k.os.trans h.os, k.tape.trans h.tape, k.output.trans h.output, Nat.le_trans h.size k.size,
   fun i hi ho => (k.block i (Nat.lt_of_lt_of_le hi h.size) (fun hb => by rcases h.grow i hb with e | e; exact ho e; omega)).trans (h.block i hi ho),
   fun i hi => by rcases k.grow i hi with e | e; exact h.grow i e; exact .inr (Nat.le_trans h.size e)⟩
theorem Goes.drew {a b : Nat → Prop} {w w1 : World} (h : Goes a w w1 b) : Goes a w w1.drew b := ⟨h.os, h.tape, h.output, h.size, h.block, h.grow⟩
theorem Goes.same {a b b' : Nat → Prop} {w w1 : World} (h : Goes a w w1 b) (hb : ∀ k, b' k → b k) : Goes a w w1 b' := ⟨h.os, h.tape, h.output, h.size, h.block, fun k hk => h.grow k (hb k hk)⟩
theorem Goes.wider {a a' b : Nat → Prop} {w w1 : World} (h : Goes a w w1 b) (ha : ∀ k, a k → a' k) : Goes a' w w1 b := ⟨h.os, h.tape, h.output, h.size, fun k hk hn => h.block k hk (fun e => hn (ha k e)), fun k hk => (h.grow k hk).imp (ha k) id⟩
theorem Goes.alloc {a b : Nat → Prop} {w w1 : World} (h : Goes a w w1 b) (o : Obj) : Goes a w (w1.alloc o) b :=
  ⟨h.os, h.tape, h.output, by have := h.size; simp; omega, fun k hk hn => (Below.heap_alloc w1 o k (Nat.lt_of_lt_of_le hk h.size)).trans (h.block k hk hn), h.grow⟩
theorem Goes.setRow {a b : Nat → Prop} {w w1 : World} (h : Goes a w w1 b) {g : Nat} (hg : a g ∨ w.heap.size ≤ g) (cs : Array Value) : Goes a w (w1.setRow g cs) b :=
  ⟨h.os, h.tape, h.output, by rw [heap_setRow_size]; exact h.size, fun k hk hn => (setRow_other w1 g k cs (fun e => by subst e; rcases hg with e | e; exact hn e; omega)).trans (h.block k hk hn), h.grow⟩
theorem Goes.setCell {a b : Nat → Prop} {w w1 : World} (h : Goes a w w1 b) {q : Addr} (hg : a q.block ∨ w.heap.size ≤ q.block) (v : Value) : Goes a w (w1.setCell q v) b :=
  ⟨h.os, h.tape, h.output, by have := h.size; simpa using this, fun k hk hn => (Below.heap_setCell w1 q v k (fun e => by subst e; rcases hg with e | e; exact hn e; omega)).trans (h.block k hk hn), h.grow⟩
theorem Goes.below {a b : Nat → Prop} {w w1 : World} (h : Goes a w w1 b) {B : Nat} (hB : B ≤ w.heap.size) (ha : ∀ k, a k → B ≤ k) : Below B w w1 :=
  ⟨h.os, h.tape, h.output, h.size, fun k hk => h.block k (by omega) (fun e => by have := ha k e; omega)⟩
theorem Goes.grown {a b : Nat → Prop} {w w1 w2 : World} {row : Option Nat} (h : Goes a w w1 b) (hg : w1.grownBy w2 row) (hr : ∀ k, row = some k → a k ∨ w.heap.size ≤ k) : Goes a w w2 b :=
  ⟨hg.os.trans h.os, hg.tape.trans h.tape, hg.output.trans h.output, Nat.le_trans h.size hg.size,
   fun k hk hn => (hg.block k (Nat.lt_of_lt_of_le hk h.size) (fun e => by rcases hr k e.symm with e | e; exact hn e; omega)).trans (h.block k hk hn), h.grow⟩

theorem ownsRow_of_block {w w' : World} {base : Nat} {e : TypeId} {size : Nat} {v : Value} {n : Nat} {xs : List Value} (h : w.ownsRow base e size v n xs) (hb : ∀ g, v.ownBlock = some g → w'.heap[g]? = w.heap[g]?) : w'.ownsRow base e size v n xs := by
  obtain ⟨h1, h2⟩ := h
  refine ⟨h1, ?_⟩
  rcases h2 with h2 | ⟨g, cap, cur, hv, hg, hh, r⟩
  · exact .inl h2
  · exact .inr ⟨g, cap, cur, hv, hg, by rw [hb g (by rw [hv]; rfl)]; exact hh, r⟩

/-! ### append, its bound widened, and where the new row lies -/
theorem run_append_far {P : Program} (w : World) (base : Nat) (t ty e : TypeId) (i : TypeInfo) (z : Value) (size bytes : Nat) (ht : P.underlying t = some (.slice e)) (hi : P.info? e = some i) (hz : i.zero = some z)
    (hsize : i.size = size) (hby : i.bytes = bytes) (hzs : z.cells.size = size) (hsz : 0 < size)
    (v : Value) (n : Nat) (xs : List Value) (hown : w.ownsRow base e size v n xs)
    (a : Addr) (m c : Nat) (news : List Value) (hl : news.length = m * size) (hnews : ∀ j u, news[j]? = some u → w.cell? (a.add j) = some u) (h1 : ∀ u ∈ news, u.oneCell' = true)
    (hm : 0 < m) (h63 : n + m ≤ maxLen) (hbytes : ((n + m) + (n + m) / 4 + 192) * bytes ≤ 281474976710656) (hbase : base ≤ w.heap.size) :
    ∃ g cap w', (Builtin.append_ #[t, t] ty #[v, .slice (some a) m c]).run P w = .ok (.slice (some ⟨g, 0, none⟩) (n + m) cap) w' ∧
      w'.ownsRow base e size (.slice (some ⟨g, 0, none⟩) (n + m) cap) (n + m) (xs ++ news) ∧ w.grownBy w' v.ownBlock ∧ (v.ownBlock = some g ∨ g = w.heap.size) ∧ g < w'.heap.size := by
  subst hsize
  subst hby
  have hlen : (xs ++ news).length = (n + m) * i.size := by rw [List.length_append, hown.1, hl, Nat.add_mul]
  have grown : ∀ (old : Nat), old < n + m → ∀ (row : Option Nat),
      (w.drew.alloc (.cells (xs.toArray ++ news.toArray ++ Builtin.zeroCells z.cells (grownCap w (n + m) old e - (n + m))) e)).ownsRow base e i.size
        (.slice (some ⟨w.heap.size, 0, none⟩) (n + m) (grownCap w (n + m) old e)) (n + m) (xs ++ news) ∧
      w.grownBy (w.drew.alloc (.cells (xs.toArray ++ news.toArray ++ Builtin.zeroCells z.cells (grownCap w (n + m) old e - (n + m))) e)) row := by
    intro old ho row
    have hge := grownCap_ge w (n + m) old e
    have hcm : grownCap w (n + m) old e ≤ maxLen := grownCap_le_maxLen w (n + m) old e h63
    refine ⟨⟨hlen, .inr ⟨w.heap.size, _, _, rfl, hbase, heap_alloc_new w.drew _, hge, hcm, ?_, ?_⟩⟩, ⟨rfl, rfl, rfl, by simp, fun k hk _ => Below.heap_alloc w.drew _ k hk⟩⟩
    · simp only [Array.size_append, List.size_toArray, size_zeroCells, hzs, hown.1, hl, ← Nat.add_mul]
      congr 1
      omega
    · simp only [Array.toList_append, List.append_assoc]
      rw [← List.append_assoc, ← hlen]
      exact List.take_left
  have hsz2 : ∀ o : Obj, w.heap.size < (w.drew.alloc o).heap.size := by intro o; simp
  have hmx : n + m ≤ 9223372036854775807 := by simp only [maxLen] at h63; omega
  rcases hown.2 with ⟨rfl, rfl⟩ | ⟨g, cap, cur, rfl, hbg, hg, hnc, hcm, hcs, htake⟩
  · have hx : xs = [] := List.eq_nil_of_length_eq_zero (by simpa using hown.1)
    subst hx
    have hr := run_append_nil (P := P) w t ty e i z ht hi hz a m c news hl hnews (by omega) (by omega) (by have hb := hbytes; simp only [Nat.zero_add] at hb; exact Nat.le_trans (Nat.mul_le_mul_right _ (by omega)) hb)
    have hgr := grown 0 (by omega) (Value.ownBlock (.slice none 0 0))
    simp only [Nat.zero_add, List.nil_append, Array.empty_append] at hgr ⊢
    exact ⟨_, _, _, hr, hgr.1, hgr.2, .inr rfl, hsz2 _⟩
  · by_cases hroom : n + m ≤ cap
    · have hfit : n * i.size + news.length ≤ cur.size := by rw [hl, hcs, ← Nat.add_mul]; exact Nat.mul_le_mul_right _ hroom
      have hr := run_append_room (P := P) w t ty e i ht hi g n cap cur hg a m c news hl hnews h1 hroom hfit
      refine ⟨_, _, _, hr, ⟨hlen, .inr ⟨g, cap, _, rfl, hbg, setRow_heap w g cur _ e _ hg, hroom, hcm, ?_, ?_⟩⟩, ⟨rfl, rfl, rfl, by simp, fun k _ hk => setRow_other w g k _ (fun e => hk (by simp [Value.ownBlock, e]))⟩, .inl rfl, by rw [heap_setRow_size]; exact lt_of_heap hg⟩
      · simp only [List.size_toArray, List.length_append, List.length_take, List.length_drop, Array.length_toList]
        omega
      · rw [htake, ← hlen]
        exact List.take_left
    · have holds : ∀ j u, xs[j]? = some u → w.cell? ((⟨g, 0, none⟩ : Addr).add j) = some u := hown.cells (g := g) rfl
      have hr := run_append_grow (P := P) w t ty e i z ht hi hz ⟨g, 0, none⟩ n cap xs hown.1 holds a m c news hl hnews (by omega) (by omega) (growslice_fits_wide (by omega) hbytes)
      have hgr := grown cap (by omega) (Value.ownBlock (.slice (some ⟨g, 0, none⟩) n cap))
      exact ⟨_, _, _, hr, hgr.1, hgr.2, .inr rfl, hsz2 _⟩

/-! ### copy between rows of wide elements -/
theorem run_copy_wide {P : Program} (w : World) (dT sT ty elem : TypeId) (c g dLen dCap : Nat) (a : Addr) (sLen sCap : Nat) (cur : Array Value) (t : TypeId) (cs : List Value)
    (hu : P.underlying dT = some (.slice elem)) (hs : (P.info? elem).map (·.size) = some c)
    (hg : w.heap[g]? = some (.cells cur t (0, 0))) (hn : cs.length = Nat.min sLen dLen * c)
    (hsrc : ∀ j v, cs[j]? = some v → w.cell? (a.add j) = some v) (hfit : cs.length = cur.size) (h1 : ∀ v ∈ cs, v.oneCell' = true) :
    (Builtin.copy_ #[dT, sT] ty #[.slice (some ⟨g, 0, none⟩) dLen dCap, .slice (some a) sLen sCap]).run P w = .ok (goInt (Nat.min sLen dLen)) (w.setRow g cs.toArray) := by
  have hl := run_loadCells_list (P := P) w a cs hsrc
  have hst := run_storeCells_at P g 0 t cs 0 cur w hg (by omega) h1
  have e : (cur.toList.take (0 + 0) ++ cs ++ cur.toList.drop (0 + 0 + cs.length)) = cs := by
    rw [List.drop_of_length_le (by rw [Array.length_toList]; omega)]; simp
  rw [e] at hst
  cases hq : P.info? elem with
  | none => simp [hq] at hs
  | some i =>
    have hi : i.size = c := by simpa [hq] using hs
    simp [Builtin.copy_, run_underlying hu, Builtin.lenOf, Builtin.firstCells, sizeOf, typeInfo, hq, hi, ← hn, hl, hst]

/-! ### a slice of one wide element -/
theorem fill_list : ∀ (l : List Value) (k : Nat) (a : Array Value), a.size = k + l.length →
    (l.zipIdx k).foldl (fun (cs : Array Value) (x : Value × Nat) => cs.setIfInBounds (0 + x.2) x.1) a = (a.toList.take k ++ l).toArray
  | [], k, a, h => by
    simp only [List.zipIdx_nil, List.foldl_nil, List.append_nil]
    rw [List.take_of_length_le (by rw [Array.length_toList]; simp at h; omega)]
  | v :: r, k, a, h => by
    have h' : a.size = k + (r.length + 1) := h
    have ih := fill_list r (k + 1) (a.setIfInBounds (0 + k) v) (by simp; omega)
    rw [List.zipIdx_cons, List.foldl_cons, ih]
    congr 1
    rw [Nat.zero_add, Array.toList_setIfInBounds, List.take_add_one, List.take_set_of_le (Nat.le_refl k), List.getElem?_set_self (by rw [Array.length_toList]; omega)]
    simp

theorem run_buildSlice_one {P : Program} (W : World) (t e : TypeId) (i : TypeInfo) (z : Value) (ht : P.underlying t = some (.slice e)) (hi : P.info? e = some i) (hz : i.zero = some z)
    (C : List Value) (hl : C.length = i.size) (hpos : 0 < i.size) (hsm : i.size ≤ 16777216) :
    (Instr.buildSlice t 1 #[(0, .agg C.toArray)]).run P W = .ok (.slice (some ⟨W.heap.size, 0, none⟩) 1 1) (W.alloc (.cells C.toArray e)) := by
  have hf : Instr.fill (fun j => some (j * i.size, i.size)) ((Array.range (1 * i.size)).map (z.cells[· % z.cells.size]!)) [(0, .agg C.toArray)] = some C.toArray := by
    have h1 : ((Array.range (1 * i.size)).map (z.cells[· % z.cells.size]!)).size = 0 + C.length := by rw [Array.size_map, Array.size_range, hl]; omega
    have h2 := fill_list C 0 _ h1
    simp only [Instr.fill, Value.cells, List.size_toArray, hl, Nat.zero_mul]
    rw [if_neg (by simp)]
    have h3 : C.toArray.zipIdx = (C.zipIdx).toArray := by apply Array.ext'; simp
    rw [h3, List.foldl_toArray]
    exact congrArg some h2
  have n1 : ¬ (16777216 < i.size) := by omega
  have n2 : ¬ (i.size = 0) := by omega
  simp only [Nat.one_mul] at hf
  simp [Instr.buildSlice, run_underlying ht, sizeOf, typeInfo, zeroValue, hi, hz, n1, n2, hf, newRow]

end Go.Proofs.YtbgcldckgiiedacDoor
