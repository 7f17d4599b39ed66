/- A disk and four lists of texts side by side, in memory of the call's own. -/
import Derived.Test.YtbemaiiloljocafSectCalls
namespace Go.Proofs.Ytbemaiiloljocaf
open Go Go.RowKit
set_option maxRecDepth 100000

def updT (T : Nat → List ByteArray) (k : Nat) (l : List ByteArray) : Nat → List ByteArray := fun j => if j = k then l else T j

structure SfAt (w0 : World) (pb mb n : Nat) (D : SD) (T : Nat → List ByteArray) (W : World) (p : DP) (M : Nat → MS) : Prop where
  hp : p.b = pb
  disk : DiskAt W p D
  may : MayAt W mb M n
  eq : ∀ k, k < n → (M k).l = T k
  sep : ∀ k, p.own k → ¬ mown mb M n k
  new1 : ∀ k, p.own k → w0.heap.size ≤ k
  new2 : ∀ k, mown mb M n k → w0.heap.size ≤ k
  old : Below w0.heap.size w0 W
def Sf (w0 : World) (pb mb n : Nat) (D : SD) (T : Nat → List ByteArray) (W : World) : Prop := ∃ p M, SfAt w0 pb mb n D T W p M

theorem Sf.old {w0 W : World} {pb mb n : Nat} {D : SD} {T : Nat → List ByteArray} (h : Sf w0 pb mb n D T W) : Below w0.heap.size w0 W := by
  obtain ⟨p, M, h⟩ := h
  exact h.old
theorem Sf.ok {w0 W : World} {pb mb n : Nat} {D : SD} {T : Nat → List ByteArray} (h : Sf w0 pb mb n D T W) : D.ok := by
  obtain ⟨p, M, h⟩ := h
  exact h.disk.ok

/-- Nothing of it has turned. -/
theorem Sf.on {w0 W W' : World} {pb mb n : Nat} {D : SD} {T : Nat → List ByteArray} (h : Sf w0 pb mb n D T W) (hb : Below W.heap.size W W') : Sf w0 pb mb n D T W' := by
  obtain ⟨p, M, h⟩ := h
  have hs := h.old.size
  exact ⟨p, M, h.hp, h.disk.keep fun k hk => hb.block k (h.disk.own_lt k hk), h.may.keep fun k hk => hb.block k (h.may.own_lt k hk), h.eq, h.sep, h.new1, h.new2, h.old.trans (hb.mono hs)⟩
theorem Sf.alloc {w0 W : World} {pb mb n : Nat} {D : SD} {T : Nat → List ByteArray} (h : Sf w0 pb mb n D T W) (o : Obj) : Sf w0 pb mb n D T (W.alloc o) := h.on ((Below.refl _ W).alloc (Nat.le_refl _) o)
theorem Sf.drew {w0 W : World} {pb mb n : Nat} {D : SD} {T : Nat → List ByteArray} (h : Sf w0 pb mb n D T W) : Sf w0 pb mb n D T W.drew := h.on (Below.refl _ W).drew

/-- The disk's own part. -/
theorem Sf.part {w0 W : World} {pb mb n : Nat} {D : SD} {T : Nat → List ByteArray} (h : Sf w0 pb mb n D T W) :
    ∃ p : DP, p.b = pb ∧ DiskAt W p D ∧ (∀ k, p.own k → w0.heap.size ≤ k) ∧ ∀ (p' : DP) (D' : SD) (W' : World), p'.b = p.b → DiskAt W' p' D' → Goes p.own W W' p'.own → Sf w0 pb mb n D' T W' := by
  obtain ⟨p, M, h⟩ := h
  refine ⟨p, h.hp, h.disk, h.new1, fun p' D' W' hb hd g => ⟨p', M, hb.trans h.hp, hd, h.may.keepBy g (fun k hk e => h.sep k e hk), h.eq, fun k hk e => ?_, fun k hk => ?_, h.new2, ?_⟩⟩
  · rcases g.grow k hk with e1 | e1
    · exact h.sep k e1 e
    · have := h.may.own_lt k e; omega
  · rcases g.grow k hk with e1 | e1
    · exact h.new1 k e1
    · exact Nat.le_trans h.old.size e1
  · exact h.old.trans (g.below h.old.size h.new1)

/-- One of the four. -/
theorem Sf.one {w0 W : World} {pb mb n : Nat} {D : SD} {T : Nat → List ByteArray} (h : Sf w0 pb mb n D T W) (k : Nat) (hk : k < n) (hk4 : k < 4) :
    ∃ g o c, W.cell? ⟨mb, k, none⟩ = some (.slice (some ⟨g, o, none⟩) (T k).length c) ∧ W.frozen? ⟨mb, k, none⟩ = false ∧ TxAt W g o c (T k) ∧ g ≠ mb ∧ w0.heap.size ≤ g ∧ mb < W.heap.size ∧ w0.heap.size ≤ mb ∧
      (∀ (g' o' c' : Nat) (l : List ByteArray) (W' : World), W.grownBy W' (some g) → TxAt W' g' o' c' l → (g' = g ∨ W.heap.size ≤ g') →
        Sf w0 pb mb n D (updT T k l) (W'.setCell ⟨mb, k, none⟩ (.slice (some ⟨g', o', none⟩) l.length c'))) ∧
      (∀ (l : List ByteArray) (W' : World), W.grownBy W' (some g) → TxAt W' g o c l → l.length = (T k).length → Sf w0 pb mb n D (updT T k l) W') := by
  obtain ⟨p, M, h⟩ := h
  have hM : (M k).l = T k := h.eq k hk
  have hx := h.may.at_ k hk
  have hgk : mown mb M n (M k).g := .inr ⟨k, hk, rfl⟩
  have hlt := h.may.own_lt _ hgk
  have hmb : mown mb M n mb := .inl rfl
  refine ⟨(M k).g, (M k).o, (M k).c, ?_, h.may.fz k, by rw [← hM]; exact hx, h.may.far k hk, h.new2 _ hgk, h.may.own_lt _ hmb, h.new2 _ hmb, ?_, ?_⟩
  · rw [h.may.cell k hk4]
    unfold cl
    rw [if_pos hk, MS.sl, hM]
  · intro g' o' c' l W' hgr htx hg'
    -- in W' all but the row that was appended to is as it was
    have hbk : ∀ b, mown mb M n b → b ≠ (M k).g → W'.heap[b]? = W.heap[b]? := fun b hb hne => hgr.block b (h.may.own_lt b hb) (fun e => hne (by injection e))
    have hd' : DiskAt W' p D := h.disk.keep fun b hb => hgr.block b (h.disk.own_lt b hb) (fun e => h.sep b hb (by injection e with e; rw [e]; exact hgk))
    let m : MS := ⟨g', o', c', l⟩
    have hm' : MayAt (W'.setCell ⟨mb, k, none⟩ m.sl) mb (upd M k m) n := by
      -- number k is laid anew over the others as they are in W'
      have e1 : W'.heap[mb]? = W.heap[mb]? := hbk mb hmb (Ne.symm (h.may.far k hk))
      have e2 := h.may.hd
      rw [← e1] at e2
      have e := setCell_eq_setRow W' mb k _ _ _ m.sl e2
      have hne : ∀ b, b ≠ mb → (W'.setCell ⟨mb, k, none⟩ m.sl).heap[b]? = W'.heap[b]? := fun b hb => Below.heap_setCell W' ⟨mb, k, none⟩ m.sl b hb
      have hfar : g' ≠ mb := by
        rcases hg' with e | e
        · rw [e]; exact h.may.far k hk
        · have := h.may.own_lt _ hmb; omega
      have hoth : ∀ j, j < n → j ≠ k → (M j).g ≠ g' := by
        intro j hj hjk e
        rcases hg' with e' | e'
        · exact h.may.ne k hk j hj hjk (by rw [e, e'])
        · have := h.may.own_lt _ (.inr ⟨j, hj, rfl⟩ : mown mb M n (M j).g); omega
      have clk : ∀ j, cl (upd M k m) n j = if j = k then m.sl else cl M n j := by
        intro j
        unfold cl upd
        by_cases hj : j = k
        · rw [if_pos (by omega), if_pos hj, if_pos hj]
        · rw [if_neg hj, if_neg hj]
      refine ⟨?_, fun j hj => ?_, fun j hj => ?_, fun j hj i hi hij => ?_⟩
      · rw [e, setRow_heap W' _ _ _ _ _ e2, clk, clk, clk, clk]
        rcases four hk4 with rfl | rfl | rfl | rfl <;> rfl
      · unfold upd
        by_cases hjk : j = k
        · rw [if_pos hjk]; exact htx.keep (hne _ hfar)
        · rw [if_neg hjk]
          exact (h.may.at_ j hj).keep ((hne _ (h.may.far j hj)).trans (hbk _ (.inr ⟨j, hj, rfl⟩) (h.may.ne k hk j hj hjk)))
      · unfold upd
        by_cases hjk : j = k
        · rw [if_pos hjk]; exact hfar
        · rw [if_neg hjk]; exact h.may.far j hj
      · unfold upd
        by_cases hik : i = k
        · rw [if_pos hik, if_neg (by omega)]
          exact Ne.symm (hoth j hj (by omega))
        · rw [if_neg hik]
          by_cases hjk : j = k
          · rw [if_pos hjk]; exact hoth i hi hik
          · rw [if_neg hjk]; exact h.may.ne j hj i hi hij
    have hown : ∀ b, mown mb (upd M k m) n b → mown mb M n b ∨ W.heap.size ≤ b := by
      rintro b (hb | ⟨j, hj, hb⟩)
      · exact .inl (.inl hb)
      · unfold upd at hb
        by_cases hjk : j = k
        · rw [if_pos hjk] at hb
          rcases hg' with e | e
          · exact .inl (.inr ⟨k, hk, by rw [hb]; exact e⟩)
          · right; rw [hb]; exact e
        · rw [if_neg hjk] at hb
          exact .inl (.inr ⟨j, hj, hb⟩)
    refine ⟨p, upd M k m, h.hp, hd'.keep fun b hb => Below.heap_setCell W' ⟨mb, k, none⟩ m.sl b (fun e => h.sep b hb (by rw [e]; exact hmb)), hm', fun j hj => ?_, fun b hb hb2 => ?_, h.new1, fun b hb => ?_, ?_⟩
    · unfold upd updT
      by_cases hjk : j = k
      · rw [if_pos hjk, if_pos hjk]
      · rw [if_neg hjk, if_neg hjk]; exact h.eq j hj
    · rcases hown b hb2 with e | e
      · exact h.sep b hb e
      · have := h.disk.own_lt b hb; omega
    · rcases hown b hb with e | e
      · exact h.new2 b e
      · exact Nat.le_trans h.old.size e
    · exact (h.old.grown hgr h.old.size (fun b e => by injection e with e; rw [← e]; exact h.new2 _ hgk)).setCell (h.new2 _ hmb) _
  · intro l W' hgr htx hl
    have hbk : ∀ b, mown mb M n b → b ≠ (M k).g → W'.heap[b]? = W.heap[b]? := fun b hb hne => hgr.block b (h.may.own_lt b hb) (fun e => hne (by injection e))
    let m : MS := ⟨(M k).g, (M k).o, (M k).c, l⟩
    have hsl : m.sl = (M k).sl := by unfold MS.sl; rw [hM, ← hl]
    refine ⟨p, upd M k m, h.hp, h.disk.keep fun b hb => hgr.block b (h.disk.own_lt b hb) (fun e => h.sep b hb (by injection e with e; rw [e]; exact hgk)), ⟨?_, fun j hj => ?_, fun j hj => ?_, fun j hj i hi hij => ?_⟩, fun j hj => ?_, fun b hb hb2 => ?_, h.new1, fun b hb => ?_, ?_⟩
    · rw [hbk mb hmb (Ne.symm (h.may.far k hk)), h.may.hd]
      have clk : ∀ j, cl (upd M k m) n j = cl M n j := by
        intro j
        unfold cl upd
        by_cases hj : j = k
        · rw [if_pos hj, hsl, hj]
        · rw [if_neg hj]
      rw [clk, clk, clk, clk]
    · unfold upd
      by_cases hjk : j = k
      · rw [if_pos hjk]; exact htx
      · rw [if_neg hjk]
        exact (h.may.at_ j hj).keep (hbk _ (.inr ⟨j, hj, rfl⟩) (h.may.ne k hk j hj hjk))
    · unfold upd
      by_cases hjk : j = k
      · rw [if_pos hjk]; exact h.may.far k hk
      · rw [if_neg hjk]; exact h.may.far j hj
    · unfold upd
      by_cases hik : i = k
      · rw [if_pos hik, if_neg (by omega)]
        exact h.may.ne j hj k hk (by omega)
      · rw [if_neg hik]
        by_cases hjk : j = k
        · rw [if_pos hjk]; exact h.may.ne k hk i hi (by omega)
        · rw [if_neg hjk]; exact h.may.ne j hj i hi hij
    · unfold upd updT
      by_cases hjk : j = k
      · rw [if_pos hjk, if_pos hjk]
      · rw [if_neg hjk, if_neg hjk]; exact h.eq j hj
    · refine h.sep b hb ?_
      rcases hb2 with hb2 | ⟨j, hj, hb2⟩
      · exact .inl hb2
      · unfold upd at hb2
        by_cases hjk : j = k
        · rw [if_pos hjk] at hb2; exact .inr ⟨k, hk, hb2⟩
        · rw [if_neg hjk] at hb2; exact .inr ⟨j, hj, hb2⟩
    · rcases hb with hb | ⟨j, hj, hb⟩
      · exact h.new2 b (.inl hb)
      · unfold upd at hb
        by_cases hjk : j = k
        · rw [if_pos hjk] at hb; exact h.new2 b (.inr ⟨k, hk, hb⟩)
        · rw [if_neg hjk] at hb; exact h.new2 b (.inr ⟨j, hj, hb⟩)
    · exact h.old.grown hgr h.old.size (fun b e => by injection e with e; rw [← e]; exact h.new2 _ hgk)

/-- The next of the four is laid for the first time: one text in a row of its own. -/
theorem Sf.lay {w0 W : World} {pb mb n : Nat} {D : SD} {T : Nat → List ByteArray} (h : Sf w0 pb mb n D T W) (hn : n < 4) (t : ByteArray) (ht : T n = [t]) :
    Sf w0 pb mb (n + 1) D T ((W.alloc (.cells #[.string t] 9)).setCell ⟨mb, n, none⟩ (.slice (some ⟨W.heap.size, 0, none⟩) 1 1)) := by
  obtain ⟨p, M, h⟩ := h
  have hmb : mown mb M n mb := .inl rfl
  have hmlt := h.may.own_lt _ hmb
  have hm := (h.may.alloc (.cells #[.string t] 9)).set n hn (n' := n + 1) (.inr ⟨rfl, rfl⟩) ⟨W.heap.size, 0, 1, [t]⟩ (TxAt.made W t) (by show W.heap.size ≠ mb; omega) (fun j hj _ => by
    have := h.may.own_lt _ (.inr ⟨j, hj, rfl⟩ : mown mb M n (M j).g)
    show (M j).g ≠ W.heap.size
    omega)
  have hown : ∀ b, mown mb (upd M n ⟨W.heap.size, 0, 1, [t]⟩) (n + 1) b → mown mb M n b ∨ b = W.heap.size := by
    rintro b (hb | ⟨j, hj, hb⟩)
    · exact .inl (.inl hb)
    · unfold upd at hb
      by_cases hjk : j = n
      · rw [if_pos hjk] at hb; exact .inr hb
      · rw [if_neg hjk] at hb; exact .inl (.inr ⟨j, by omega, hb⟩)
  refine ⟨p, _, h.hp, (h.disk.alloc _).keep fun b hb => Below.heap_setCell (W.alloc (.cells #[.string t] 9)) ⟨mb, n, none⟩ _ b (fun e => h.sep b hb (by rw [e]; exact hmb)), hm, fun j hj => ?_, fun b hb hb2 => ?_, h.new1, fun b hb => ?_, ?_⟩
  · unfold upd
    by_cases hjk : j = n
    · rw [if_pos hjk, hjk, ht]
    · rw [if_neg hjk]; exact h.eq j (by omega)
  · rcases hown b hb2 with e | e
    · exact h.sep b hb e
    · have := h.disk.own_lt b hb; omega
  · rcases hown b hb with e | e
    · exact h.new2 b e
    · have := h.old.size; omega
  · exact (h.old.alloc h.old.size _).setCell (h.new2 _ hmb) _

/-- One that is not laid yet. -/
theorem Sf.nil {w0 W : World} {pb mb n : Nat} {D : SD} {T : Nat → List ByteArray} (h : Sf w0 pb mb n D T W) (k : Nat) (hk : n ≤ k) (hk4 : k < 4) :
    W.cell? ⟨mb, k, none⟩ = some (.slice none 0 0) ∧ W.frozen? ⟨mb, k, none⟩ = false ∧ mb < W.heap.size := by
  obtain ⟨p, M, h⟩ := h
  refine ⟨?_, h.may.fz k, h.may.own_lt mb (.inl rfl)⟩
  rw [h.may.cell k hk4]
  unfold cl
  rw [if_neg (by omega)]

/-- Where none of the four is laid yet. -/
theorem Sf.start {w0 W : World} {p : DP} {D : SD} (T : Nat → List ByteArray) (h : DiskAt W p D) (g : Goes (fun _ => False) w0 W p.own) :
    Sf w0 p.b W.heap.size 0 D T (W.alloc (.cells #[.slice none 0 0, .slice none 0 0, .slice none 0 0, .slice none 0 0] 41)) := by
  refine ⟨p, fun _ => ⟨0, 0, 0, []⟩, rfl, h.alloc _, ⟨heap_alloc_new W _, fun k hk => by omega, fun k hk => by omega, fun k hk => by omega⟩, fun k hk => by omega, ?_, ?_, ?_, ?_⟩
  · rintro k hk (e | ⟨j, hj, _⟩)
    · have := h.own_lt k hk; omega
    · omega
  · intro k hk
    rcases g.grow k hk with e | e
    · cases e
    · exact e
  · rintro k (e | ⟨j, hj, _⟩)
    · have := g.size; omega
    · omega
  · exact (g.below (Nat.le_refl _) (fun k hk => by cases hk)).alloc g.size _

end Go.Proofs.Ytbemaiiloljocaf
