/- Four lists of texts in an array: how they lie, what a store, a cut and an append leave; and what may be there behind a crash, as plain lists. -/
import Derived.Test.YtbemaiiloljocafSectCrash
import Derived.ArgAppend
namespace Go.Proofs.Ytbemaiiloljocaf
open Go Go.RowKit
set_option maxRecDepth 100000

/-! ### A list of texts, anywhere in a row of one's own -/
structure TxAt (w : World) (g o c : Nat) (l : List ByteArray) : Prop where
  len : l.length ≤ c
  cap : c ≤ maxLen
  row : ∃ cur : Array Value, w.heap[g]? = some (.cells cur 9 (0, 0)) ∧ o + c ≤ cur.size ∧ ∀ j t, l[j]? = some t → cur[o + j]? = some (.string t)

theorem TxAt.lt {w : World} {g o c : Nat} {l : List ByteArray} (h : TxAt w g o c l) : g < w.heap.size := by
  obtain ⟨cur, hg, _⟩ := h.row
  exact lt_of_heap hg
theorem TxAt.keep {w w' : World} {g o c : Nat} {l : List ByteArray} (h : TxAt w g o c l) (hb : w'.heap[g]? = w.heap[g]?) : TxAt w' g o c l :=
  ⟨h.len, h.cap, by rw [hb]; exact h.row⟩
theorem TxAt.cell {w : World} {g o c : Nat} {l : List ByteArray} (h : TxAt w g o c l) (j : Nat) (t : ByteArray) (hj : l[j]? = some t) : w.cell? ⟨g, o + j, none⟩ = some (.string t) := by
  obtain ⟨cur, hg, _, hc⟩ := h.row
  rw [cell_of_row w g _ cur 9 _ hg]
  exact hc j t hj
theorem TxAt.fz {w : World} {g o c : Nat} {l : List ByteArray} (h : TxAt w g o c l) (j : Nat) : w.frozen? ⟨g, j, none⟩ = false := by
  obtain ⟨cur, hg, _⟩ := h.row
  simp [World.frozen?, hg]
theorem TxAt.made (w : World) (t : ByteArray) : TxAt (w.alloc (.cells #[.string t] 9)) w.heap.size 0 1 [t] :=
  ⟨by simp, by unfold maxLen; omega, ⟨_, heap_alloc_new w _, by simp, fun j u hj => by
    match j, hj with
    | 0, hj => simp at hj; subst hj; rfl⟩⟩
theorem TxAt.last {w : World} {g o c : Nat} {l : List ByteArray} (h : TxAt w g o c l) (x : ByteArray) (hx : l[l.length - 1]? = some x) : TxAt w g (o + (l.length - 1)) (c - (l.length - 1)) [x] := by
  have hlen := h.len
  have hpos : l.length - 1 < l.length := (List.getElem?_eq_some_iff.1 hx).1
  obtain ⟨cur, hg, hc, hv⟩ := h.row
  refine ⟨by simp; omega, by have := h.cap; omega, cur, hg, by omega, fun j t hj => ?_⟩
  match j, hj with
  | 0, hj =>
    simp at hj
    subst hj
    exact hv _ _ hx
theorem TxAt.set0 {w : World} {g o c : Nat} {t : ByteArray} (h : TxAt w g o c [t]) (u : ByteArray) : TxAt (w.setCell ⟨g, o, none⟩ (.string u)) g o c [u] := by
  have hlen : 1 ≤ c := by simpa using h.len
  obtain ⟨cur, hg, hc, hv⟩ := h.row
  refine ⟨h.len, h.cap, cur.setIfInBounds o (.string u), ?_, by simpa using hc, fun j x hj => ?_⟩
  · rw [setCell_eq_setRow w g o cur 9 _ _ hg]
    exact setRow_heap w g _ _ _ _ hg
  · match j, hj with
    | 0, hj =>
      simp at hj
      subst hj
      rw [Nat.add_zero, Array.getElem?_setIfInBounds_self_of_lt (by omega)]

theorem tx_info : (Try.prog.info? 9).map (fun i => (i.zero, i.size, i.bytes)) = some (some (.string ⟨#[]⟩), 1, 16) := by kernel_rfl

/-- append of one text. -/
theorem run_append_tx (w : World) (ty : TypeId) (g o c : Nat) (l : List ByteArray) (h : TxAt w g o c l) (t : ByteArray) (b : Nat) (hb : w.heap[b]? = some (.cells #[.string t] 9 (0, 0)))
    (hroom : ((l.length + 1) + (l.length + 1) / 4 + 192) * 16 ≤ 281474976710656) :
    ∃ g' o' c' w', (Builtin.append_ #[40, 40] ty #[.slice (some ⟨g, o, none⟩) l.length c, .slice (some ⟨b, 0, none⟩) 1 1]).run Try.prog w = .ok (.slice (some ⟨g', o', none⟩) (l.length + 1) c') w' ∧
      TxAt w' g' o' c' (l ++ [t]) ∧ w.grownBy w' (some g) ∧ (g' = g ∨ g' = w.heap.size) := by
  obtain ⟨i0, hi, hz0, hz1, hz2⟩ := info_parts tx_info
  obtain ⟨cur, hg, hc, hv⟩ := h.row
  have hlen := h.len
  have hnews : ∀ j u, [Value.string t][j]? = some u → w.cell? ((⟨b, 0, none⟩ : Addr).add j) = some u := fun j u hj => by
    match j, hj with
    | 0, hj =>
      simp at hj
      subst hj
      rw [Addr.add_mid, cell_of_row w b _ _ 9 _ hb]
      rfl
  have h1 : ∀ u ∈ [Value.string t], u.oneCell' = true := fun u hu => by rw [List.mem_singleton.1 hu]; rfl
  by_cases hr : l.length + 1 ≤ c
  · have hcell : w.cell? ⟨g, o + l.length, none⟩ = some cur[o + l.length] := by rw [cell_of_row w g _ cur 9 _ hg]; exact Array.getElem?_eq_getElem (by omega)
    have e := run_append_room_cells (P := Try.prog) w 40 ty 9 i0 Try.underlying40 hi g o l.length c ⟨b, 0, none⟩ 1 1 [.string t] (by rw [hz1]; rfl) hnews h1 hr
      (fun j hj => by
        have hj0 : j = 0 := by simpa using hj
        subst hj0
        rw [hz1, Nat.mul_one, Nat.add_zero, hcell]; rfl) (fun j _ => by simp [World.frozen?, hg])
    rw [hz1, Nat.mul_one] at e
    refine ⟨g, o, c, _, e, ⟨by simpa using hr, h.cap, cur.setIfInBounds (o + l.length) (.string t), ?_, by simpa using hc, ?_⟩, ?_, .inl rfl⟩
    · show (w.setCell ⟨g, o + l.length, none⟩ (.string t)).heap[g]? = _
      rw [setCell_eq_setRow w g _ cur 9 _ _ hg]
      exact setRow_heap w g _ _ _ _ hg
    · intro j x hj
      by_cases hjl : j < l.length
      · rw [List.getElem?_append_left hjl] at hj
        rw [Array.getElem?_setIfInBounds_ne (by omega)]
        exact hv j x hj
      · have hj2 : j = l.length := by
          have := (List.getElem?_eq_some_iff.1 hj).1
          simp at this
          omega
        subst hj2
        rw [List.getElem?_append_right (by omega)] at hj
        simp at hj
        subst hj
        rw [Array.getElem?_setIfInBounds_self_of_lt (by omega)]
    · refine ⟨rfl, rfl, rfl, by show _ ≤ (w.setCell ⟨g, o + l.length, none⟩ (.string t)).heap.size; simp, fun k _ hk => ?_⟩
      exact Below.heap_setCell w ⟨g, o + l.length, none⟩ (.string t) k (fun e => hk (by rw [e]))
  · have hmx : l.length + 1 ≤ 9223372036854775807 := by omega
    have holds : ∀ j v, (l.map Value.string)[j]? = some v → w.cell? ((⟨g, o, none⟩ : Addr).add j) = some v := fun j v hj => by
      rw [List.getElem?_map] at hj
      cases hx : l[j]? with
      | none => rw [hx] at hj; cases hj
      | some x =>
        rw [hx] at hj
        simp at hj
        subst hj
        rw [Addr.add_mid]
        exact h.cell j x hx
    have e := run_append_grow (P := Try.prog) w 40 ty 9 i0 (.string ⟨#[]⟩) Try.underlying40 hi hz0 ⟨g, o, none⟩ l.length c (l.map Value.string) (by rw [hz1]; simp) holds ⟨b, 0, none⟩ 1 1 [.string t] (by rw [hz1]; rfl) hnews (by omega) (by omega) (growslice_fits_wide (by omega) (by rw [hz2]; exact hroom))
    have hge := grownCap_ge w (l.length + 1) c 9
    have hcm : grownCap w (l.length + 1) c 9 ≤ maxLen := grownCap_le_maxLen w (l.length + 1) c 9 (by unfold maxLen; omega)
    refine ⟨w.heap.size, 0, grownCap w (l.length + 1) c 9, _, e, ⟨by simpa using hge, hcm, _, heap_alloc_new w.drew _, ?_, ?_⟩, ⟨rfl, rfl, rfl, by simp, fun k hk _ => Below.heap_alloc w.drew _ k hk⟩, .inr rfl⟩
    · rw [Nat.zero_add, Array.size_append, Array.size_append, size_zeroCells]
      simp [Value.cells]
      omega
    · intro j x hj
      have hjl : j < l.length + 1 := by
        have := (List.getElem?_eq_some_iff.1 hj).1
        simpa using this
      rw [Nat.zero_add, Array.getElem?_append_left (by simpa using hjl)]
      rw [show (l.map Value.string).toArray ++ [Value.string t].toArray = ((l ++ [t]).map Value.string).toArray by simp]
      rw [List.getElem?_toArray, List.getElem?_map, hj]
      rfl

/-! ### Four of them in an array -/
structure MS where
  g : Nat
  o : Nat
  c : Nat
  l : List ByteArray
def MS.sl (m : MS) : Value := .slice (some ⟨m.g, m.o, none⟩) m.l.length m.c
def cl (M : Nat → MS) (n j : Nat) : Value := if j < n then (M j).sl else .slice none 0 0
def upd (M : Nat → MS) (k : Nat) (m : MS) : Nat → MS := fun j => if j = k then m else M j

/-- The first n of the four are laid. -/
structure MayAt (w : World) (mb : Nat) (M : Nat → MS) (n : Nat) : Prop where
  hd : w.heap[mb]? = some (.cells #[cl M n 0, cl M n 1, cl M n 2, cl M n 3] 41 (0, 0))
  at_ : ∀ k, k < n → TxAt w (M k).g (M k).o (M k).c (M k).l
  far : ∀ k, k < n → (M k).g ≠ mb
  ne : ∀ k, k < n → ∀ j, j < n → j ≠ k → (M j).g ≠ (M k).g

def mown (mb : Nat) (M : Nat → MS) (n : Nat) (k : Nat) : Prop := k = mb ∨ ∃ j, j < n ∧ k = (M j).g
theorem MayAt.own_lt {w : World} {mb : Nat} {M : Nat → MS} {n : Nat} (h : MayAt w mb M n) : ∀ k, mown mb M n k → k < w.heap.size := by
  rintro k (rfl | ⟨j, hj, rfl⟩)
  · exact lt_of_heap h.hd
  · exact (h.at_ j hj).lt
theorem MayAt.keep {w w' : World} {mb : Nat} {M : Nat → MS} {n : Nat} (h : MayAt w mb M n) (hb : ∀ k, mown mb M n k → w'.heap[k]? = w.heap[k]?) : MayAt w' mb M n :=
  ⟨by rw [hb _ (.inl rfl)]; exact h.hd, fun k hk => (h.at_ k hk).keep (hb _ (.inr ⟨k, hk, rfl⟩)), h.far, h.ne⟩
theorem MayAt.keepBy {w w' : World} {mb : Nat} {M : Nat → MS} {n : Nat} {own own' : Nat → Prop} (h : MayAt w mb M n) (g : Goes own w w' own') (hne : ∀ k, mown mb M n k → ¬ own k) : MayAt w' mb M n :=
  h.keep fun k hk => g.block k (h.own_lt k hk) (hne k hk)
theorem MayAt.drew {w : World} {mb : Nat} {M : Nat → MS} {n : Nat} (h : MayAt w mb M n) : MayAt w.drew mb M n := h.keep fun _ _ => rfl
theorem MayAt.alloc {w : World} {mb : Nat} {M : Nat → MS} {n : Nat} (h : MayAt w mb M n) (o : Obj) : MayAt (w.alloc o) mb M n := h.keep fun k hk => Below.heap_alloc w o k (h.own_lt k hk)

theorem four {k : Nat} (h : k < 4) : k = 0 ∨ k = 1 ∨ k = 2 ∨ k = 3 := by omega
theorem MayAt.cell {w : World} {mb : Nat} {M : Nat → MS} {n : Nat} (h : MayAt w mb M n) (k : Nat) (hk : k < 4) : w.cell? ⟨mb, k, none⟩ = some (cl M n k) := by
  rw [cell_of_row w _ _ _ _ _ h.hd]
  rcases four hk with rfl | rfl | rfl | rfl <;> rfl
theorem MayAt.fz {w : World} {mb : Nat} {M : Nat → MS} {n : Nat} (h : MayAt w mb M n) (k : Nat) : w.frozen? ⟨mb, k, none⟩ = false := by simp [World.frozen?, h.hd]

/-- Number k is laid anew, or for the first time. -/
theorem MayAt.set {w : World} {mb : Nat} {M : Nat → MS} {n n' : Nat} (h : MayAt w mb M n) (k : Nat) (hk : k < 4) (hn : (n' = n ∧ k < n) ∨ (n' = n + 1 ∧ k = n)) (m : MS) (hm : TxAt w m.g m.o m.c m.l)
    (hf : m.g ≠ mb) (hg : ∀ j, j < n → j ≠ k → (M j).g ≠ m.g) : MayAt (w.setCell ⟨mb, k, none⟩ m.sl) mb (upd M k m) n' := by
  have e := setCell_eq_setRow w mb k _ _ _ m.sl h.hd
  have hne : ∀ b, b ≠ mb → (w.setCell ⟨mb, k, none⟩ m.sl).heap[b]? = w.heap[b]? := fun b hb => Below.heap_setCell w ⟨mb, k, none⟩ m.sl b hb
  have clk : ∀ j, cl (upd M k m) n' j = if j = k then m.sl else cl M n j := by
    intro j
    unfold cl upd
    by_cases hj : j = k
    · have : j < n' := by omega
      rw [if_pos this, if_pos hj, if_pos hj]
    · rw [if_neg hj, if_neg hj]
      have : j < n' ↔ j < n := by omega
      simp only [this]
  refine ⟨?_, fun j hj => ?_, fun j hj => ?_, fun j hj i hi hij => ?_⟩
  · rw [e, setRow_heap w _ _ _ _ _ h.hd, clk, clk, clk, clk]
    rcases four hk with rfl | rfl | rfl | rfl <;> rfl
  · unfold upd
    by_cases hjk : j = k
    · rw [if_pos hjk]; exact hm.keep (hne _ hf)
    · rw [if_neg hjk]
      exact (h.at_ j (by omega)).keep (hne _ (h.far j (by omega)))
  · unfold upd
    by_cases hjk : j = k
    · rw [if_pos hjk]; exact hf
    · rw [if_neg hjk]; exact h.far j (by omega)
  · unfold upd
    by_cases hik : i = k
    · rw [if_pos hik, if_neg (by omega)]
      exact Ne.symm (hg j (by omega) (by omega))
    · rw [if_neg hik]
      by_cases hjk : j = k
      · rw [if_pos hjk]; exact hg i (by omega) hik
      · rw [if_neg hjk]; exact h.ne j (by omega) i (by omega) hij

/-! ### What may be there -/
def at4 (l : List ByteArray) (k : Nat) : ByteArray := l.getD k ⟨#[]⟩
/-- What is safe may be there, and what is loose; the last is what is seen. -/
structure MayBe (d : SD) (T : Nat → List ByteArray) : Prop where
  n4 : d.n = 4
  safe : ∀ k, k < 4 → at4 d.safe k ∈ T k
  loose : ∀ x ∈ d.loose, x.2 ∈ T x.1
  last : ∀ k, k < 4 → (T k)[(T k).length - 1]? = some (at4 d.seen k)

theorem after_may (L : List (Nat × ByteArray)) (K : List Bool) (S : List ByteArray) (T : Nat → List ByteArray) (hS : S.length = 4) (h : ∀ k, k < 4 → at4 S k ∈ T k) (hl : ∀ x ∈ L, x.2 ∈ T x.1) :
    ∀ i k, k < 4 → at4 (after L K S i) k ∈ T k
  | 0, k, hk => h k hk
  | i + 1, k, hk => by
    have ih := after_may L K S T hS h hl i k hk
    unfold after
    split
    · rename_i x hx
      split
      · by_cases e : x.1 = k
        · subst e
          have : at4 ((after L K S i).set x.1 x.2) x.1 = x.2 := by
            unfold at4
            rw [List.getD_eq_getElem?_getD, List.getElem?_set_self (by rw [after_len, hS]; exact hk)]
            rfl
          rw [this]
          exact hl x (List.mem_of_getElem? hx)
        · have : at4 ((after L K S i).set x.1 x.2) k = at4 (after L K S i) k := by
            unfold at4
            rw [List.getD_eq_getElem?_getD, List.getD_eq_getElem?_getD, List.getElem?_set_ne e]
          rw [this]
          exact ih
      · exact ih
    · exact ih

theorem MayBe.crash {d : SD} {T : Nat → List ByteArray} (h : MayBe d T) (ok : d.ok) (K : List Bool) (k : Nat) (hk : k < 4) : at4 (d.crash K).seen k ∈ T k :=
  after_may d.loose K d.safe T (by rw [ok.len]; exact h.n4) h.safe h.loose _ k hk
theorem MayBe.fuse {d : SD} {T : Nat → List ByteArray} (h : MayBe d T) (n : Int) : MayBe (d.fuse n) T := ⟨h.n4, h.safe, h.loose, h.last⟩
theorem burn_seen (d : SD) : d.burn.seen = d.seen ∧ d.burn.safe = d.safe ∧ d.burn.loose = d.loose := by unfold SD.burn; split <;> exact ⟨rfl, rfl, rfl⟩
theorem MayBe.flush {d : SD} {T T' : Nat → List ByteArray} (h : MayBe d T) (hd : d.flush.1 = 0) (hT : ∀ k, k < 4 → T' k = [at4 d.seen k]) : MayBe d.flush.2 T' := by
  unfold SD.flush at hd ⊢
  split at hd
  · simp at hd
  · rename_i hdn
    rw [if_neg hdn]
    obtain ⟨b1, b2, b3⟩ := burn_seen d
    refine ⟨by show d.burn.seen.length = 4; rw [b1]; exact h.n4, fun k hk => ?_, by simp, fun k hk => ?_⟩
    · show at4 d.burn.seen k ∈ T' k
      rw [b1, hT k hk]; simp
    · show (T' k)[(T' k).length - 1]? = some (at4 d.burn.seen k)
      rw [b1, hT k hk]; rfl
theorem MayBe.stay {d d' : SD} {T : Nat → List ByteArray} (h : MayBe d T) (h1 : d'.seen = d.seen) (h2 : d'.safe = d.safe) (h3 : d'.loose = d.loose) : MayBe d' T :=
  ⟨by unfold SD.n; rw [h1]; exact h.n4, by rw [h2]; exact h.safe, by rw [h3]; exact h.loose, by rw [h1]; exact h.last⟩
theorem MayBe.write {d : SD} {T T' : Nat → List ByteArray} (h : MayBe d T) (k : Nat) (hk : k < 4) (t : ByteArray) (hw : (d.write k t).1 = 0) (hT : ∀ j, T' j = if j = k then T k ++ [pad t] else T j) : MayBe (d.write k t).2 T' := by
  unfold SD.write at hw ⊢
  split at hw
  · simp at hw
  · rename_i c1
    split at hw
    · simp at hw
    · rename_i c2
      split at hw
      · simp at hw
      · rename_i c3
        rw [if_neg c1, if_neg c2, if_neg c3]
        obtain ⟨b1, b2, b3⟩ := burn_seen d
        have hin : ∀ j x, x ∈ T j → x ∈ T' j := by
          intro j x hx
          rw [hT]
          by_cases e : j = k
          · rw [if_pos e]; subst e; exact List.mem_append_left _ hx
          · rw [if_neg e]; exact hx
        refine ⟨by show (d.burn.seen.set _ _).length = 4; rw [List.length_set, b1]; exact h.n4, fun j hj => ?_, ?_, fun j hj => ?_⟩
        · show at4 d.burn.safe j ∈ T' j
          rw [b2]
          exact hin j _ (h.safe j hj)
        · intro x hx
          simp only [b3, Int.toNat_natCast] at hx
          rcases List.mem_append.1 hx with hx | hx
          · exact hin _ _ (h.loose x hx)
          · rw [List.mem_singleton.1 hx, hT]
            simp
        · show (T' j)[(T' j).length - 1]? = some (at4 (d.burn.seen.set (Int.toNat k) (pad t)) j)
          rw [hT, b1, Int.toNat_natCast]
          by_cases e : j = k
          · subst e
            rw [if_pos rfl]
            unfold at4
            rw [List.getD_eq_getElem?_getD, List.getElem?_set_self (by have := h.n4; unfold SD.n at this; omega)]
            simp
          · rw [if_neg e]
            unfold at4
            rw [List.getD_eq_getElem?_getD, List.getElem?_set_ne (by omega), ← List.getD_eq_getElem?_getD]
            exact h.last j hj

end Go.Proofs.Ytbemaiiloljocaf
