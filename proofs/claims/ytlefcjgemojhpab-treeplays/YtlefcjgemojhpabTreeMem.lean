/- A store of nodes in memory: each node two cells, its rows of entries and of pointers its own; what a changed row, a new node leaves of it. -/
import Derived.Test.YtlefcjgemojhpabTreePIns
import Derived.Test.YtlefcjgemojhpabTreeEIns
import Derived.Test.YtlefcjgemojhpabTreeStep
namespace Go.Proofs.Ytlefcjgemojhpab.PTree
open Go Go.RowKit PPool
set_option maxRecDepth 100000
/-- Whose a block is: a node's own cells (0), its entries (1), its pointers (2). -/
abbrev Lab := Nat → Option (Nat × Nat)
abbrev dom (o : Lab) : Nat → Prop := fun k => o k ≠ none
def pt (c : Nat) : TP.Pt := some ⟨c, 0, none⟩
structure NodeAt (w : World) (p : Nat) (ve vb : Value) : Prop where
  c0 : w.cell? ⟨p, 0, none⟩ = some ve
  c1 : w.cell? ⟨p, 1, none⟩ = some vb
  f0 : w.frozen? ⟨p, 0, none⟩ = false
  f1 : w.frozen? ⟨p, 1, none⟩ = false
theorem frozen_of_block {w w' : World} {a : Addr} (h : w'.heap[a.block]? = w.heap[a.block]?) : w'.frozen? a = w.frozen? a := by simp only [World.frozen?, h]
theorem NodeAt.keep {w w' : World} {p : Nat} {ve vb : Value} (h : NodeAt w p ve vb) (hb : w'.heap[p]? = w.heap[p]?) : NodeAt w' p ve vb where
  c0 := (World.cell?_of_block (a := ⟨p, 0, none⟩) hb).trans h.c0
  c1 := (World.cell?_of_block (a := ⟨p, 1, none⟩) hb).trans h.c1
  f0 := (frozen_of_block (a := ⟨p, 0, none⟩) hb).trans h.f0
  f1 := (frozen_of_block (a := ⟨p, 1, none⟩) hb).trans h.f1
theorem NodeAt.lt {w : World} {p : Nat} {ve vb : Value} (h : NodeAt w p ve vb) : p < w.heap.size := World.block_lt_of_cell? w _ h.c0
structure Mem (w : World) (o : Lab) (M : Sto) : Prop where
  at_ : ∀ p n, M p = some n → ∃ ve vb, NodeAt w p ve vb ∧ o p = some (p, 0) ∧ TE.OwnPg w 0 ve n.es ∧ TP.OwnPg w 0 vb (n.cs.map pt) ∧ (∀ g, ve.ownBlock = some g → o g = some (p, 1)) ∧ (∀ g, vb.ownBlock = some g → o g = some (p, 2))
  lt : ∀ k, o k ≠ none → k < w.heap.size
theorem Mem.keep {w w' : World} {o : Lab} {M : Sto} (h : Mem w o M) (hb : ∀ k, o k ≠ none → w'.heap[k]? = w.heap[k]?) (hs : w.heap.size ≤ w'.heap.size) : Mem w' o M where
  at_ := fun p n hp => by
    obtain ⟨ve, vb, h1, h2, h3, h4, h5, h6⟩ := h.at_ p n hp
    exact ⟨ve, vb, h1.keep (hb p (by rw [h2]; simp)), h2, h3.keep fun g hg => hb g (by rw [h5 g hg]; simp), h4.keep fun g hg => hb g (by rw [h6 g hg]; simp), h5, h6⟩
  lt := fun k hk => Nat.lt_of_lt_of_le (h.lt k hk) hs
theorem Mem.below {w w' : World} {o : Lab} {M : Sto} (h : Mem w o M) (hb : Below w.heap.size w w') : Mem w' o M := h.keep (fun k hk => hb.block k (h.lt k hk)) hb.size
theorem Mem.goes {w w' : World} {o : Lab} {M : Sto} {a b : Nat → Prop} (h : Mem w o M) (g : Goes a w w' b) (hd : ∀ k, o k ≠ none → ¬ a k) : Mem w' o M := h.keep (fun k hk => g.block k (h.lt k hk) (hd k hk)) g.size
theorem Mem.drew {w : World} {o : Lab} {M : Sto} (h : Mem w o M) : Mem w.drew o M := h.keep (fun _ _ => rfl) (Nat.le_refl _)
/-- A node opened. -/
structure Opn (w : World) (p : Nat) (n : Nn) (ae : Option Addr) (ce : Nat) (ab : Option Addr) (cb : Nat) : Prop where
  at_ : NodeAt w p (.slice ae n.es.length ce) (.slice ab n.cs.length cb)
  e : TE.OwnPg w 0 (.slice ae n.es.length ce) n.es
  b : TP.OwnPg w 0 (.slice ab n.cs.length cb) (n.cs.map pt)
theorem Mem.open_ {w : World} {o : Lab} {M : Sto} (h : Mem w o M) {p : Nat} {n : Nn} (hp : M p = some n) : ∃ ae ce ab cb, Opn w p n ae ce ab cb := by
  obtain ⟨ve, vb, h1, h2, h3, h4, h5, h6⟩ := h.at_ p n hp
  obtain ⟨ae, ce, rfl, _⟩ := h3.at_
  obtain ⟨ab, cb, e, _⟩ := h4.at_
  rw [List.length_map] at e
  subst e
  exact ⟨ae, ce, ab, cb, h1, h3, h4⟩
theorem Mem.lt_of {w : World} {o : Lab} {M : Sto} (h : Mem w o M) {p : Nat} {n : Nn} (hp : M p = some n) : p < w.heap.size := by
  obtain ⟨ve, vb, h1, _⟩ := h.at_ p n hp
  exact h1.lt
/-- What is kept: all blocks but the nodes' own, and of a node's block all cells behind its two; whose they are. -/
structure Gos (o : Lab) (w w' : World) (o' : Lab) : Prop extends Goes (dom o) w w' (dom o') where
  rest : ∀ p off, o p = some (p, 0) → p < w.heap.size → 2 ≤ off → w'.cell? ⟨p, off, none⟩ = w.cell? ⟨p, off, none⟩
  own : ∀ p, o p = some (p, 0) → o' p = some (p, 0)
  frz : ∀ p off, o p = some (p, 0) → p < w.heap.size → w'.frozen? ⟨p, off, none⟩ = w.frozen? ⟨p, off, none⟩
theorem Gos.refl (o : Lab) (w : World) : Gos o w w o := ⟨Goes.refl _ _, fun _ _ _ _ _ => rfl, fun _ h => h, fun _ _ _ _ => rfl⟩
theorem Gos.trans {a b c : Lab} {w w1 w2 : World} (h : Gos a w w1 b) (k : Gos b w1 w2 c) : Gos a w w2 c :=
  ⟨h.toGoes.trans k.toGoes, fun p off hp hl ho => (k.rest p off (h.own p hp) (Nat.lt_of_lt_of_le hl h.size) ho).trans (h.rest p off hp hl ho), fun p hp => k.own p (h.own p hp), fun p off hp hl => (k.frz p off (h.own p hp) (Nat.lt_of_lt_of_le hl h.size)).trans (h.frz p off hp hl)⟩
theorem Gos.of_below {o : Lab} {w w' : World} (hb : Below w.heap.size w w') : Gos o w w' o :=
  ⟨⟨hb.os, hb.tape, hb.output, hb.size, fun k hk _ => hb.block k hk, fun _ hk => .inl hk⟩, fun p off _ hl _ => hb.cell (p := ⟨p, off, none⟩) hl, fun _ h => h, fun p off _ hl => hb.frozen (p := ⟨p, off, none⟩) hl⟩
/-- A node's entries have turned: those of another row, or the same one, are stored. -/
theorem Mem.setE {w w1 w2 : World} {o : Lab} {M : Sto} (h : Mem w o M) {p : Nat} {n : Nn} (hp : M p = some n) {ve ve' : Value} {es' : List En} (hc : w.cell? ⟨p, 0, none⟩ = some ve)
    (g : Goes (ownB ve) w w1 (ownB ve')) (r : TE.OwnPg w1 0 ve' es') (e2 : w2 = w1.setCell ⟨p, 0, none⟩ ve') :
    ∃ o', Mem w2 o' (M.put p ⟨es', n.cs⟩) ∧ Gos o w w2 o' := by
  obtain ⟨ve0, vb, h1, h2, h3, h4, h5, h6⟩ := h.at_ p n hp
  have : ve0 = ve := by rw [h1.c0] at hc; exact Option.some.inj hc
  subst this
  have hnew : ∀ k, ve'.ownBlock = some k → o k = some (p, 1) ∨ o k = none := fun k hk => by
    rcases g.grow k hk with e | e
    · exact .inl (h5 k e)
    · right
      cases ho : o k with
      | none => rfl
      | some x => have := h.lt k (by rw [ho]; simp); omega
  let o' : Lab := fun k => if ve'.ownBlock = some k then some (p, 1) else o k
  have hkeep : ∀ k x, o k = some x → x ≠ (p, 1) → o' k = some x ∧ w1.heap[k]? = w.heap[k]? := fun k x hk hx => by
    refine ⟨?_, g.block k (h.lt k (by rw [hk]; simp)) fun hown => ?_⟩
    · show (if _ then _ else _) = _
      rw [if_neg]
      · exact hk
      · intro hv
        rcases hnew k hv with e | e
        · rw [hk] at e; exact hx (Option.some.inj e)
        · rw [hk] at e; cases e
    · have := h5 k hown
      rw [hk] at this
      exact hx (Option.some.inj this)
  have hset : ∀ k, k ≠ p → w2.heap[k]? = w1.heap[k]? := fun k hk => by rw [e2]; exact Below.heap_setCell w1 _ _ k hk
  have hpp := hkeep p (p, 0) h2 (by simp)
  refine ⟨o', ⟨fun q m hq => ?_, fun k hk => ?_⟩, ?_⟩
  · by_cases e : q = p
    · subst e
      rw [Sto.put_at] at hq
      cases hq
      have hn1 := h1.keep hpp.2
      have hne : ∀ g', ve'.ownBlock = some g' → g' ≠ q := fun g' hg' e => by
        subst e
        have := hpp.1
        have : o' g' = some (g', 1) := if_pos hg'
        rw [hpp.1] at this
        cases this
      refine ⟨ve', vb, ?_, hpp.1, r.keep fun g' hg' => hset g' (hne g' hg'), h4.keep fun g' hg' => ?_, fun g' hg' => if_pos hg', fun g' hg' => (hkeep g' _ (h6 g' hg') (by simp)).1⟩
      · rw [e2]
        refine ⟨World.cell?_setCell_same w1 _ _ hn1.c0, ?_, ?_, ?_⟩
        · rw [World.cell?_setCell_other w1 _ _ _ (by simp)]; exact hn1.c1
        · rw [World.frozen?_setCell]; exact hn1.f0
        · rw [World.frozen?_setCell]; exact hn1.f1
      · have := hkeep g' _ (h6 g' hg') (by simp)
        rw [hset g' (fun e => by subst e; have := h6 _ hg'; rw [h2] at this; cases this)]
        exact this.2
    · rw [Sto.put_ne _ _ e] at hq
      obtain ⟨xe, xb, k1, k2, k3, k4, k5, k6⟩ := h.at_ q m hq
      have u : ∀ k i, o k = some (q, i) → o' k = some (q, i) ∧ w2.heap[k]? = w.heap[k]? := fun k i hk => by
        obtain ⟨a1, a2⟩ := hkeep k _ hk (by intro hx; cases hx; exact e rfl)
        refine ⟨a1, (hset k fun ek => ?_).trans a2⟩
        subst ek
        rw [h2] at hk
        cases hk
        exact e rfl
      exact ⟨xe, xb, k1.keep (u q 0 k2).2, (u q 0 k2).1, k3.keep fun g' hg' => (u g' 1 (k5 g' hg')).2, k4.keep fun g' hg' => (u g' 2 (k6 g' hg')).2, fun g' hg' => (u g' 1 (k5 g' hg')).1, fun g' hg' => (u g' 2 (k6 g' hg')).1⟩
  · have hs : w2.heap.size = w1.heap.size := by rw [e2]; simp
    rw [hs]
    by_cases hv : ve'.ownBlock = some k
    · exact (r.lt k hv).2
    · have : o' k = o k := if_neg hv
      rw [this] at hk
      exact Nat.lt_of_lt_of_le (h.lt k hk) g.size
  · have hdom : ∀ k, ownB ve0 k → dom o k := fun k hk => by show o k ≠ none; rw [h5 k hk]; simp
    have g1 : Goes (dom o) w w1 (dom o') := by
      refine ⟨g.os, g.tape, g.output, g.size, fun k hk hn => g.block k hk fun e => hn (hdom k e), fun k hk => ?_⟩
      by_cases hv : ve'.ownBlock = some k
      · exact (g.grow k hv).imp (hdom k) id
      · have : o' k = o k := if_neg hv
        have hk : o' k ≠ none := hk
        rw [this] at hk
        exact .inl hk
    refine ⟨by rw [e2]; exact g1.setCell (.inl (by show o p ≠ none; rw [h2]; simp)) _, fun q off hq _ ho => ?_, fun q hq => (hkeep q _ hq (by simp)).1, fun q off hq _ => by rw [e2, World.frozen?_setCell]; exact frozen_of_block (a := ⟨q, off, none⟩) (hkeep q _ hq (by simp)).2⟩
    rw [e2, World.cell?_setCell_other _ _ _ _ (by intro e; injection e with _ e _; omega)]
    exact World.cell?_of_block (a := ⟨q, off, none⟩) (hkeep q _ hq (by simp)).2
/-- A node's pointers have turned: those of another row, or the same one, are stored. -/
theorem Mem.setP {w w1 w2 : World} {o : Lab} {M : Sto} (h : Mem w o M) {p : Nat} {n : Nn} (hp : M p = some n) {ve ve' : Value} {cs' : List Nat} (hc : w.cell? ⟨p, 1, none⟩ = some ve)
    (g : Goes (ownB ve) w w1 (ownB ve')) (r : TP.OwnPg w1 0 ve' (cs'.map pt)) (e2 : w2 = w1.setCell ⟨p, 1, none⟩ ve') :
    ∃ o', Mem w2 o' (M.put p ⟨n.es, cs'⟩) ∧ Gos o w w2 o' := by
  obtain ⟨vb, ve0, h1, h2, h4, h3, h6, h5⟩ := h.at_ p n hp
  have : ve0 = ve := by rw [h1.c1] at hc; exact Option.some.inj hc
  subst this
  have hnew : ∀ k, ve'.ownBlock = some k → o k = some (p, 2) ∨ o k = none := fun k hk => by
    rcases g.grow k hk with e | e
    · exact .inl (h5 k e)
    · right
      cases ho : o k with
      | none => rfl
      | some x => have := h.lt k (by rw [ho]; simp); omega
  let o' : Lab := fun k => if ve'.ownBlock = some k then some (p, 2) else o k
  have hkeep : ∀ k x, o k = some x → x ≠ (p, 2) → o' k = some x ∧ w1.heap[k]? = w.heap[k]? := fun k x hk hx => by
    refine ⟨?_, g.block k (h.lt k (by rw [hk]; simp)) fun hown => ?_⟩
    · show (if _ then _ else _) = _
      rw [if_neg]
      · exact hk
      · intro hv
        rcases hnew k hv with e | e
        · rw [hk] at e; exact hx (Option.some.inj e)
        · rw [hk] at e; cases e
    · have := h5 k hown
      rw [hk] at this
      exact hx (Option.some.inj this)
  have hset : ∀ k, k ≠ p → w2.heap[k]? = w1.heap[k]? := fun k hk => by rw [e2]; exact Below.heap_setCell w1 _ _ k hk
  have hpp := hkeep p (p, 0) h2 (by simp)
  refine ⟨o', ⟨fun q m hq => ?_, fun k hk => ?_⟩, ?_⟩
  · by_cases e : q = p
    · subst e
      rw [Sto.put_at] at hq
      cases hq
      have hn1 := h1.keep hpp.2
      have hne : ∀ g', ve'.ownBlock = some g' → g' ≠ q := fun g' hg' e => by
        subst e
        have := hpp.1
        have : o' g' = some (g', 2) := if_pos hg'
        rw [hpp.1] at this
        cases this
      refine ⟨vb, ve', ?_, hpp.1, h4.keep fun g' hg' => ?_, r.keep fun g' hg' => hset g' (hne g' hg'), fun g' hg' => (hkeep g' _ (h6 g' hg') (by simp)).1, fun g' hg' => if_pos hg'⟩
      · rw [e2]
        refine ⟨?_, World.cell?_setCell_same w1 _ _ hn1.c1, ?_, ?_⟩
        · rw [World.cell?_setCell_other w1 _ _ _ (by simp)]; exact hn1.c0
        · rw [World.frozen?_setCell]; exact hn1.f0
        · rw [World.frozen?_setCell]; exact hn1.f1
      · have := hkeep g' _ (h6 g' hg') (by simp)
        rw [hset g' (fun e => by subst e; have := h6 _ hg'; rw [h2] at this; cases this)]
        exact this.2
    · rw [Sto.put_ne _ _ e] at hq
      obtain ⟨xe, xb, k1, k2, k3, k4, k5, k6⟩ := h.at_ q m hq
      have u : ∀ k i, o k = some (q, i) → o' k = some (q, i) ∧ w2.heap[k]? = w.heap[k]? := fun k i hk => by
        obtain ⟨a1, a2⟩ := hkeep k _ hk (by intro hx; cases hx; exact e rfl)
        refine ⟨a1, (hset k fun ek => ?_).trans a2⟩
        subst ek
        rw [h2] at hk
        cases hk
        exact e rfl
      exact ⟨xe, xb, k1.keep (u q 0 k2).2, (u q 0 k2).1, k3.keep fun g' hg' => (u g' 1 (k5 g' hg')).2, k4.keep fun g' hg' => (u g' 2 (k6 g' hg')).2, fun g' hg' => (u g' 1 (k5 g' hg')).1, fun g' hg' => (u g' 2 (k6 g' hg')).1⟩
  · have hs : w2.heap.size = w1.heap.size := by rw [e2]; simp
    rw [hs]
    by_cases hv : ve'.ownBlock = some k
    · exact (r.lt k hv).2
    · have : o' k = o k := if_neg hv
      rw [this] at hk
      exact Nat.lt_of_lt_of_le (h.lt k hk) g.size
  · have hdom : ∀ k, ownB ve0 k → dom o k := fun k hk => by show o k ≠ none; rw [h5 k hk]; simp
    have g1 : Goes (dom o) w w1 (dom o') := by
      refine ⟨g.os, g.tape, g.output, g.size, fun k hk hn => g.block k hk fun e => hn (hdom k e), fun k hk => ?_⟩
      by_cases hv : ve'.ownBlock = some k
      · exact (g.grow k hv).imp (hdom k) id
      · have : o' k = o k := if_neg hv
        have hk : o' k ≠ none := hk
        rw [this] at hk
        exact .inl hk
    refine ⟨by rw [e2]; exact g1.setCell (.inl (by show o p ≠ none; rw [h2]; simp)) _, fun q off hq _ ho => ?_, fun q hq => (hkeep q _ hq (by simp)).1, fun q off hq _ => by rw [e2, World.frozen?_setCell]; exact frozen_of_block (a := ⟨q, off, none⟩) (hkeep q _ hq (by simp)).2⟩
    rw [e2, World.cell?_setCell_other _ _ _ _ (by intro e; injection e with _ e _; omega)]
    exact World.cell?_of_block (a := ⟨q, off, none⟩) (hkeep q _ hq (by simp)).2
/-- A new node. -/
theorem Mem.newNode {w w2 : World} {o : Lab} {M : Sto} (h : Mem w o M) {q : Nat} {ve vb : Value} {n : Nn} (hq : w.heap.size ≤ q) (hb : Below w.heap.size w w2)
    (hn : NodeAt w2 q ve vb) (r : TE.OwnPg w2 w.heap.size ve n.es) (rb : TP.OwnPg w2 w.heap.size vb (n.cs.map pt)) (q1 : ve.ownBlock ≠ some q) (q2 : vb.ownBlock ≠ some q) (q3 : ∀ g, ve.ownBlock = some g → vb.ownBlock ≠ some g) :
    ∃ o', Mem w2 o' (M.put q n) ∧ Gos o w w2 o' := by
  let o' : Lab := fun k => if k = q then some (q, 0) else if ve.ownBlock = some k then some (q, 1) else if vb.ownBlock = some k then some (q, 2) else o k
  have hkeep : ∀ k, o k ≠ none → o' k = o k := fun k hk => by
    have hlt := h.lt k hk
    show (if _ then _ else if _ then _ else if _ then _ else _) = _
    rw [if_neg (by omega), if_neg (fun e => by have := (r.lt k e).1; omega), if_neg (fun e => by have := (rb.lt k e).1; omega)]
  refine ⟨o', ⟨fun p m hp => ?_, fun k hk => ?_⟩, ⟨⟨hb.os, hb.tape, hb.output, hb.size, fun k hk _ => hb.block k hk, fun k hk => ?_⟩, fun p off _ hl _ => hb.cell (p := ⟨p, off, none⟩) hl, fun p hp => (hkeep p (by rw [hp]; simp)).trans hp, fun p off _ hl => hb.frozen (p := ⟨p, off, none⟩) hl⟩⟩
  · by_cases e : p = q
    · subst e
      rw [Sto.put_at] at hp
      cases hp
      refine ⟨ve, vb, hn, if_pos rfl, r.lower (Nat.zero_le _), rb.lower (Nat.zero_le _), fun g hg => ?_, fun g hg => ?_⟩
      · show (if _ then _ else if _ then _ else if _ then _ else _) = _
        rw [if_neg (fun e => q1 (by rw [← e]; exact hg)), if_pos hg]
      · show (if _ then _ else if _ then _ else if _ then _ else _) = _
        rw [if_neg (fun e => q2 (by rw [← e]; exact hg)), if_neg (fun e => q3 g e hg), if_pos hg]
    · rw [Sto.put_ne _ _ e] at hp
      obtain ⟨xe, xb, k1, k2, k3, k4, k5, k6⟩ := h.at_ p m hp
      have u : ∀ k i, o k = some (p, i) → o' k = some (p, i) ∧ w2.heap[k]? = w.heap[k]? := fun k i hk => ⟨(hkeep k (by rw [hk]; simp)).trans hk, hb.block k (h.lt k (by rw [hk]; simp))⟩
      exact ⟨xe, xb, k1.keep (u p 0 k2).2, (u p 0 k2).1, k3.keep fun g' hg' => (u g' 1 (k5 g' hg')).2, k4.keep fun g' hg' => (u g' 2 (k6 g' hg')).2, fun g' hg' => (u g' 1 (k5 g' hg')).1, fun g' hg' => (u g' 2 (k6 g' hg')).1⟩
  · by_cases e1 : k = q
    · subst e1; exact hn.lt
    · by_cases e2 : ve.ownBlock = some k
      · exact (r.lt k e2).2
      · by_cases e3 : vb.ownBlock = some k
        · exact (rb.lt k e3).2
        · have : o' k = o k := by
            show (if _ then _ else if _ then _ else if _ then _ else _) = _
            rw [if_neg e1, if_neg e2, if_neg e3]
          rw [this] at hk
          exact Nat.lt_of_lt_of_le (h.lt k hk) hb.size
  · by_cases e : o k = none
    · right
      by_cases e1 : k = q
      · omega
      · by_cases e2 : ve.ownBlock = some k
        · exact (r.lt k e2).1
        · by_cases e3 : vb.ownBlock = some k
          · exact (rb.lt k e3).1
          · exact absurd (show o' k = none by
              show (if _ then _ else if _ then _ else if _ then _ else _) = _
              rw [if_neg e1, if_neg e2, if_neg e3]; exact e) hk
    · exact .inl e
/-- The entries of a row have turned where they lie. -/
theorem Mem.setRowE {w w1 : World} {o : Lab} {M : Sto} (h : Mem w o M) {p : Nat} {n : Nn} (hp : M p = some n) {ve : Value} {es' : List En} (hc : w.cell? ⟨p, 0, none⟩ = some ve)
    (g : Goes (ownB ve) w w1 (ownB ve)) (r : TE.OwnPg w1 0 ve es') : Mem w1 o (M.put p ⟨es', n.cs⟩) ∧ Gos o w w1 o := by
  obtain ⟨ve0, vb, h1, h2, h3, h4, h5, h6⟩ := h.at_ p n hp
  have : ve0 = ve := by rw [h1.c0] at hc; exact Option.some.inj hc
  subst this
  have hk : ∀ k x, o k = some x → x ≠ (p, 1) → w1.heap[k]? = w.heap[k]? := fun k x hk hx => g.block k (h.lt k (by rw [hk]; simp)) fun hown => by
    have := h5 k hown
    rw [hk] at this
    exact hx (Option.some.inj this)
  refine ⟨⟨fun q m hq => ?_, fun k hk => Nat.lt_of_lt_of_le (h.lt k hk) g.size⟩, ⟨⟨g.os, g.tape, g.output, g.size, fun k hk hn => g.block k hk fun e => hn (by show o k ≠ none; rw [h5 k e]; simp), fun k hk => .inl hk⟩, fun q off hq _ _ => World.cell?_of_block (a := ⟨q, off, none⟩) (hk q _ hq (by simp)), fun _ h => h, fun q off hq _ => frozen_of_block (a := ⟨q, off, none⟩) (hk q _ hq (by simp))⟩⟩
  by_cases e : q = p
  · subst e
    rw [Sto.put_at] at hq
    cases hq
    exact ⟨ve0, vb, h1.keep (hk q _ h2 (by simp)), h2, r, h4.keep fun g' hg' => hk g' _ (h6 g' hg') (by simp), h5, h6⟩
  · rw [Sto.put_ne _ _ e] at hq
    obtain ⟨xe, xb, k1, k2, k3, k4, k5, k6⟩ := h.at_ q m hq
    have hx : ∀ i, ((q, i) : Nat × Nat) ≠ (p, 1) := fun i hx => by cases hx; exact e rfl
    exact ⟨xe, xb, k1.keep (hk q _ k2 (hx 0)), k2, k3.keep fun g' hg' => hk g' _ (k5 g' hg') (hx 1), k4.keep fun g' hg' => hk g' _ (k6 g' hg') (hx 2), k5, k6⟩
end Go.Proofs.Ytlefcjgemojhpab.PTree
