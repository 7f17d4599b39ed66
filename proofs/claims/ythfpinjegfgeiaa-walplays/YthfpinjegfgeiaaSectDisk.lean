/- A disk of sectors: the plain model, how it lies in memory, and the small calls: has, down, step, Fuse. -/
import Derived.Test.YthfpinjegfgeiaaProg
import Derived.Test.YthfpinjegfgeiaaSectMem
import Derived.Tactics
import Derived.Tactics2
import Derived.WalkKit
import Derived.WalkSpells
import Derived.StillTactics
import Derived.Laws.Pointers
import Derived.Deep.RegionHeld3
import Derived.KernelRfl
namespace Go.Proofs.Ythfpinjegfgeiaa
open Go Go.RowKit
set_option maxRecDepth 100000

/-! ### The plain model -/
structure SD where
  safe : List ByteArray
  seen : List ByteArray
  loose : List (Nat × ByteArray)
  fused : Bool
  left : Int

def SD.n (d : SD) : Nat := d.seen.length
def SD.down (d : SD) : Bool := d.fused && (d.left == 0)
def SD.burn (d : SD) : SD := if d.fused then { d with left := d.left - 1 } else d
def SD.fuse (d : SD) (n : Int) : SD := { d with fused := decide (0 ≤ n), left := max n 0 }
structure SD.ok (d : SD) : Prop where
  len : d.safe.length = d.n
  small : d.n ≤ 256
  safe64 : ∀ t ∈ d.safe, t.size = 64
  seen64 : ∀ t ∈ d.seen, t.size = 64
  loose64 : ∀ x ∈ d.loose, x.1 < d.n ∧ x.2.size = 64
  left0 : 0 ≤ d.left
  leftM : d.left ≤ 9223372036854775807

/-! ### In memory -/
structure DP where
  b : Nat
  bs : Nat
  bq : Nat
  la : Option Addr
  lc : Nat

def wcell (x : Nat × ByteArray) : List Value := .int .i64 (x.1 : Int) :: bc x.2
def DP.lo (p : DP) (k : Nat) : Prop := p.la.map (·.block) = some k
def DP.own (p : DP) (k : Nat) : Prop := k = p.b ∨ k = p.bs ∨ k = p.bq ∨ p.lo k

structure DiskAt (w : World) (p : DP) (d : SD) : Prop where
  hd : w.heap[p.b]? = some (.cells #[.slice (some ⟨p.bs, 0, none⟩) d.n d.n, .slice (some ⟨p.bq, 0, none⟩) d.n d.n, .slice p.la d.loose.length p.lc, .bool d.fused, .int .i64 d.left] 79 (0, 0))
  hs : w.heap[p.bs]? = some (.cells (d.safe.flatMap bc).toArray 84 (0, 0))
  hq : w.heap[p.bq]? = some (.cells (d.seen.flatMap bc).toArray 84 (0, 0))
  hl : w.ownsRow 0 101 65 (.slice p.la d.loose.length p.lc) d.loose.length (d.loose.flatMap wcell)
  n1 : p.b ≠ p.bs
  n2 : p.b ≠ p.bq
  n3 : p.bs ≠ p.bq
  nl : ∀ k, p.lo k → k ≠ p.b ∧ k ≠ p.bs ∧ k ≠ p.bq
  ok : d.ok

theorem ownBlock_slice (a : Option Addr) (n c : Nat) : (Value.slice a n c).ownBlock = a.map (·.block) := by cases a <;> rfl

theorem DiskAt.own_lt {w : World} {p : DP} {d : SD} (h : DiskAt w p d) : ∀ k, p.own k → k < w.heap.size := by
  rintro k (rfl | rfl | rfl | hk)
  · exact lt_of_heap h.hd
  · exact lt_of_heap h.hs
  · exact lt_of_heap h.hq
  · exact (h.hl.lt k (by rw [ownBlock_slice]; exact hk)).2

/-- The disk is where it was, if its blocks are as they were. -/
theorem DiskAt.keep {w w' : World} {p : DP} {d : SD} (h : DiskAt w p d) (hb : ∀ k, p.own k → w'.heap[k]? = w.heap[k]?) : DiskAt w' p d where
  hd := by rw [hb _ (.inl rfl)]; exact h.hd
  hs := by rw [hb _ (.inr (.inl rfl))]; exact h.hs
  hq := by rw [hb _ (.inr (.inr (.inl rfl)))]; exact h.hq
  hl := ownsRow_of_block h.hl (fun g hg => hb g (.inr (.inr (.inr (by rw [ownBlock_slice] at hg; exact hg)))))
  n1 := h.n1
  n2 := h.n2
  n3 := h.n3
  nl := h.nl
  ok := h.ok

theorem DiskAt.keepBy {w w' : World} {p : DP} {d : SD} {own own' : Nat → Prop} (h : DiskAt w p d) (g : Goes own w w' own') (hne : ∀ k, p.own k → ¬ own k) : DiskAt w' p d :=
  h.keep fun k hk => g.block k (h.own_lt k hk) (hne k hk)

theorem DiskAt.drew {w : World} {p : DP} {d : SD} (h : DiskAt w p d) : DiskAt w.drew p d := h.keep fun _ _ => rfl
theorem DiskAt.alloc {w : World} {p : DP} {d : SD} (h : DiskAt w p d) (o : Obj) : DiskAt (w.alloc o) p d := h.keep fun k hk => Below.heap_alloc w o k (h.own_lt k hk)

section cells
variable {w : World} {p : DP} {d : SD} (h : DiskAt w p d)
include h
theorem DiskAt.c0 : w.cell? ⟨p.b, 0, none⟩ = some (.slice (some ⟨p.bs, 0, none⟩) d.n d.n) := by rw [cell_of_row w _ _ _ _ _ h.hd]; rfl
theorem DiskAt.c1 : w.cell? ⟨p.b, 1, none⟩ = some (.slice (some ⟨p.bq, 0, none⟩) d.n d.n) := by rw [cell_of_row w _ _ _ _ _ h.hd]; rfl
theorem DiskAt.c2 : w.cell? ⟨p.b, 2, none⟩ = some (.slice p.la d.loose.length p.lc) := by rw [cell_of_row w _ _ _ _ _ h.hd]; rfl
theorem DiskAt.c3 : w.cell? ⟨p.b, 3, none⟩ = some (.bool d.fused) := by rw [cell_of_row w _ _ _ _ _ h.hd]; rfl
theorem DiskAt.c4 : w.cell? ⟨p.b, 4, none⟩ = some (.int .i64 d.left) := by rw [cell_of_row w _ _ _ _ _ h.hd]; rfl
theorem DiskAt.fz (i : Nat) : w.frozen? ⟨p.b, i, none⟩ = false := by simp [World.frozen?, h.hd]
end cells

/-- A new head cell row. -/
theorem DiskAt.head {w : World} {p : DP} {d : SD} (h : DiskAt w p d) (d' : SD) (p' : DP) (hb : p'.b = p.b) (hbs : p'.bs = p.bs) (hbq : p'.bq = p.bq) (hla : p'.la = p.la) (hlc : p'.lc = p.lc)
    (h1 : d'.safe = d.safe) (h2 : d'.seen = d.seen) (h3 : d'.loose = d.loose) (ok : d'.ok) {w' : World}
    (hw : w' = w.setRow p.b #[.slice (some ⟨p.bs, 0, none⟩) d.n d.n, .slice (some ⟨p.bq, 0, none⟩) d.n d.n, .slice p.la d.loose.length p.lc, .bool d'.fused, .int .i64 d'.left]) : DiskAt w' p' d' := by
  obtain ⟨b, bs, bq, la, lc⟩ := p
  obtain ⟨b', bs', bq', la', lc'⟩ := p'
  simp only at hb hbs hbq hla hlc
  subst hb; subst hbs; subst hbq; subst hla; subst hlc
  have en : d'.n = d.n := by unfold SD.n; rw [h2]
  subst hw
  refine ⟨?_, ?_, ?_, ?_, h.n1, h.n2, h.n3, h.nl, ok⟩
  · rw [setRow_heap w _ _ _ _ _ h.hd, en, h3]
  · rw [setRow_other _ _ _ _ (Ne.symm h.n1), h.hs, h1]
  · rw [setRow_other _ _ _ _ (Ne.symm h.n2), h.hq, h2]
  · rw [h3]
    exact ownsRow_of_block h.hl (fun g hg => setRow_other _ _ _ _ (h.nl g (by rw [ownBlock_slice] at hg; exact hg)).1)

theorem fuse_ok {d : SD} (ok : d.ok) (n : Int) (hn : n ≤ 9223372036854775807) : (d.fuse n).ok :=
  ⟨ok.len, ok.small, ok.safe64, ok.seen64, ok.loose64, by show 0 ≤ max n 0; omega, by show max n 0 ≤ _; omega⟩

theorem burn_ok {d : SD} (ok : d.ok) (hd : d.down = false) : d.burn.ok := by
  unfold SD.burn
  split
  · rename_i hf
    have : d.left ≠ 0 := by intro e; simp [SD.down, hf, e] at hd
    have h0 := ok.left0
    have h1 := ok.leftM
    exact ⟨ok.len, ok.small, ok.safe64, ok.seen64, ok.loose64, by show 0 ≤ d.left - 1; omega, by show d.left - 1 ≤ _; omega⟩
  · exact ok

/-! ### The small calls -/
set_option maxHeartbeats 1000000 in
theorem down_any (w : World) (p : DP) (d : SD) (h : DiskAt w p d) : Calls Try.prog 58 #[.pointer (some ⟨p.b, 0, none⟩)] w fun e w' => e = .returned (.bool d.down) ∧ w' = w := by
  have c3 := h.c3
  have c4 := h.c4
  obtain ⟨L, hL⟩ : ∃ L, L = d.left := ⟨_, rfl⟩
  obtain ⟨B, hB⟩ : ∃ B, B = d.fused := ⟨_, rfl⟩
  have e : d.down = (B && (L == 0)) := by rw [hL, hB]; rfl
  rw [← hL] at c4
  rw [← hB] at c3
  rw [e]
  clear e hL hB h
  cases B
  · go_enter Try.func58, Try.ntmps58
    go_wp2
    all_goals (go_ret; exact ⟨rfl, rfl⟩)
  · go_enter Try.func58, Try.ntmps58
    go_wp2
    all_goals (go_ret; exact ⟨rfl, rfl⟩)

set_option maxHeartbeats 1000000 in
theorem has_any (w : World) (p : DP) (d : SD) (h : DiskAt w p d) (a : Int) : Calls Try.prog 57 #[.pointer (some ⟨p.b, 0, none⟩), .int .i64 a] w fun e w' => e = .returned (.bool (decide (0 ≤ a) && decide (a < d.n))) ∧ w' = w := by
  have c1 := h.c1
  clear h
  generalize d.n = n at c1 ⊢
  by_cases h0 : 0 ≤ a
  · have e0 : decide (0 ≤ a) = true := by simpa using h0
    rw [e0, Bool.true_and]
    go_enter Try.func57, Try.ntmps57
    go_wp2
    all_goals (go_ret; exact ⟨rfl, rfl⟩)
  · have e0 : decide (0 ≤ a) = false := by simpa using h0
    rw [e0, Bool.false_and]
    go_enter Try.func57, Try.ntmps57
    go_wp2
    all_goals (go_ret; exact ⟨rfl, rfl⟩)

/-- What 'step' tells and leaves. -/
def stepW (w : World) (p : DP) (d : SD) : World := if d.fused && !(d.left == 0) then w.setCell ⟨p.b, 4, none⟩ (.int .i64 (d.left - 1)) else w

set_option maxHeartbeats 1000000 in
theorem step_raw (w : World) (p : DP) (d : SD) (h : DiskAt w p d) : Calls Try.prog 76 #[.pointer (some ⟨p.b, 0, none⟩)] w fun e w' => e = .returned (.bool (!d.down)) ∧ w' = stepW w p d := by
  have c3 := h.c3
  have c4 := h.c4
  have f4 := h.fz 4
  have l0 := h.ok.left0
  have lM := h.ok.leftM
  have H : Hid (Calls Try.prog 58 #[.pointer (some ⟨p.b, 0, none⟩)] w fun e w' => e = .returned (.bool d.down) ∧ w' = w) := down_any w p d h
  obtain ⟨L, hL⟩ : ∃ L, L = d.left := ⟨_, rfl⟩
  obtain ⟨B, hB⟩ : ∃ B, B = d.fused := ⟨_, rfl⟩
  have e : d.down = (B && (L == 0)) := by rw [hL, hB]; rfl
  have e2 : stepW w p d = if B && !(L == 0) then w.setCell ⟨p.b, 4, none⟩ (.int .i64 (L - 1)) else w := by rw [hL, hB]; rfl
  rw [← hL] at c4 l0 lM
  rw [← hB] at c3
  rw [e] at H
  rw [e, e2]
  clear e e2 hL hB h
  have fin : ∀ D : Bool, (B && (L == 0)) = D → Calls Try.prog 76 #[.pointer (some ⟨p.b, 0, none⟩)] w fun e w' => e = .returned (.bool (!(B && (L == 0)))) ∧ w' = if B && !(L == 0) then w.setCell ⟨p.b, 4, none⟩ (.int .i64 (L - 1)) else w := by
    intro D hD
    rw [hD] at H ⊢
    cases D
    · cases B
      · simp only [Bool.false_and]
        clear hD
        go_enter Try.func76, Try.ntmps76
        go_wp2_with fail
        refine H.out.mono ?_
        rintro r w1 ⟨rfl, rfl⟩
        go_wp2
        all_goals (go_ret; exact ⟨rfl, rfl⟩)
      · have hL : (L == 0) = false := by simpa using hD
        have hL0 : L ≠ 0 := by simpa using hL
        simp only [hL, Bool.not_false, Bool.and_true, if_true]
        clear hD hL
        go_enter Try.func76, Try.ntmps76
        go_wp2_with fail
        refine H.out.mono ?_
        rintro r w1 ⟨rfl, rfl⟩
        go_wp2
        all_goals (go_ret; exact ⟨rfl, rfl⟩)
    · obtain ⟨rfl, hL⟩ : B = true ∧ L = 0 := by simpa using hD
      subst hL
      go_enter Try.func76, Try.ntmps76
      go_wp2_with fail
      refine H.out.mono ?_
      rintro r w1 ⟨rfl, rfl⟩
      go_wp2
      all_goals (go_ret; exact ⟨rfl, rfl⟩)
  exact fin _ rfl

theorem stepW_goes (w : World) (p : DP) (d : SD) (own : Nat → Prop) (ho : own p.b) : Goes own w (stepW w p d) own := by
  unfold stepW
  split
  · refine ⟨rfl, rfl, rfl, by simp, fun k hk hn => Below.heap_setCell _ _ _ _ (fun e => hn (by subst e; exact ho)), fun k hk => .inl hk⟩
  · exact Goes.refl _ _

theorem stepW_at (w : World) (p : DP) (d : SD) (h : DiskAt w p d) (hd : d.down = false) : DiskAt (stepW w p d) p d.burn := by
  unfold stepW SD.burn
  by_cases hf : d.fused = true
  · have h0 : (d.left == 0) = false := by simpa [SD.down, hf] using hd
    simp only [hf, h0, Bool.not_false, Bool.and_true, if_true]
    refine h.head { d with fused := true, left := d.left - 1 } p rfl rfl rfl rfl rfl rfl rfl rfl ?_ ?_
    · have := burn_ok h.ok hd
      unfold SD.burn at this
      rw [if_pos hf, hf] at this
      exact this
    · rw [setCell_eq_setRow w p.b 4 _ _ _ _ h.hd, hf]
      rfl
  · have hf' : d.fused = false := by simpa using hf
    simp only [hf', Bool.false_and]
    exact h

/-- 'step': it tells whether the disk is not down, and counts. -/
theorem step_any (w : World) (p : DP) (d : SD) (h : DiskAt w p d) : Calls Try.prog 76 #[.pointer (some ⟨p.b, 0, none⟩)] w fun e w' =>
    e = .returned (.bool (!d.down)) ∧ DiskAt w' p (if d.down then d else d.burn) ∧ Goes p.own w w' p.own := by
  refine (step_raw w p d h).mono ?_
  rintro e w' ⟨rfl, rfl⟩
  refine ⟨rfl, ?_, stepW_goes w p d _ (.inl rfl)⟩
  cases hd : d.down
  · exact stepW_at w p d h hd
  · have : stepW w p d = w := by
      unfold stepW
      rw [if_neg]
      simp [SD.down] at hd
      simp [hd]
    rw [this]
    exact h

set_option maxHeartbeats 1000000 in
theorem fuse_raw (w : World) (p : DP) (d : SD) (h : DiskAt w p d) (n : Int) : Calls Try.prog 31 #[.pointer (some ⟨p.b, 0, none⟩), .int .i64 n] w fun e w' =>
    e = .returned (.tuple #[]) ∧ w' = (w.setCell ⟨p.b, 3, none⟩ (.bool (decide (0 ≤ n)))).setCell ⟨p.b, 4, none⟩ (.int .i64 (max n 0)) := by
  have c3 := h.c3
  have c4 := h.c4
  have f4 := h.fz 4
  have f3 := h.fz 3
  clear h
  by_cases h0 : 0 ≤ n
  · have e0 : decide (0 ≤ n) = true := by simpa using h0
    have e1 : max n 0 = n := by omega
    rw [e0, e1]
    clear e0 e1
    go_enter Try.func31, Try.ntmps31
    go_wp2
    all_goals (go_end0; exact ⟨rfl, rfl⟩)
  · have e0 : decide (0 ≤ n) = false := by simpa using h0
    have e1 : max n 0 = 0 := by omega
    rw [e0, e1]
    clear e1
    go_enter Try.func31, Try.ntmps31
    go_wp2
    all_goals (go_end0; exact ⟨rfl, rfl⟩)

/-- 'Fuse'. -/
theorem fuse_any (w : World) (p : DP) (d : SD) (h : DiskAt w p d) (n : Int) (hn : n ≤ 9223372036854775807) : Calls Try.prog 31 #[.pointer (some ⟨p.b, 0, none⟩), .int .i64 n] w fun e w' =>
    e = .returned (.tuple #[]) ∧ DiskAt w' p (d.fuse n) ∧ Goes p.own w w' p.own := by
  refine (fuse_raw w p d h n).mono ?_
  rintro e w' ⟨rfl, rfl⟩
  have e1 := setCell_eq_setRow w p.b 3 _ _ _ (.bool (decide (0 ≤ n))) h.hd
  have e2 := setCell_eq_setRow (w.setCell ⟨p.b, 3, none⟩ (.bool (decide (0 ≤ n)))) p.b 4 _ _ _ (.int .i64 (max n 0)) (by rw [e1]; exact setRow_heap w _ _ _ _ _ h.hd)
  refine ⟨rfl, ?_, ?_⟩
  · refine h.head (d.fuse n) p rfl rfl rfl rfl rfl rfl rfl rfl (fuse_ok h.ok n hn) ?_
    rw [e2, e1, setRow_setRow]
    rfl
  · rw [e2, e1]
    exact ((Goes.refl _ w).setRow (.inl (.inl rfl)) _).setRow (.inl (.inl rfl)) _

end Go.Proofs.Ythfpinjegfgeiaa
