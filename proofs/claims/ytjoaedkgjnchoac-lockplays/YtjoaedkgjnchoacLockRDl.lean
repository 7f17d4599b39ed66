/- How all stands while the reference drops: an item in a box, its lists, the table and the list in the making. -/
import Derived.Test.YtjoaedkgjnchoacLockRTb
import Derived.Test.YtjoaedkgjnchoacLockDrp
import Derived.Test.YtjoaedkgjnchoacLockRWo
namespace Go.Proofs.Ytjoaedkgjnchoac.PLock
open Go Go.RowKit PPool
set_option maxRecDepth 100000

theorem LsW.ne {w W W' : World} {v : Value} {L : List Lk.Lo} (h : LsW w W v L) {b : Nat} (hb : ¬ TyAt W b) (hk : ∀ g, g ≠ b → W'.heap[g]? = W.heap[g]?) : LsW w W' v L := by
  rcases h with h | h
  · exact .inl h
  · exact .inr (h.keep fun g _ ht => hk g (fun e => hb (e ▸ ht)))
theorem TbW.ne {w W W' : World} {v : Value} {T : List Lk.It} (h : TbW w W v T) {b : Nat} (hb : ¬ TyAt W b) (hn : v.ownBlock ≠ some b) (hbel : Below w.heap.size w W') (hk : ∀ g, g ≠ b → W'.heap[g]? = W.heap[g]?) : TbW w W' v T := by
  obtain ⟨P, h1, h2, h3⟩ := h.row
  exact ⟨hbel, P, h1.keep (fun g hg => hk g (fun e => hn (by rw [hg, e]))), h2, fun j x y hx hy => ⟨(h3 j x y hx hy).i, (h3 j x y hx hy).h.ne hb hk, (h3 j x y hx hy).q.ne hb hk⟩⟩
theorem LsW.grownInts {w W W' : World} {v V : Value} {L : List Lk.Lo} {base : Nat} {R : List Int} (h : LsW w W v L) (k : OwnInts W base V R) (hg : W.grownBy W' V.ownBlock) : LsW w W' v L := by
  rcases h with h | h
  · exact .inl h
  · exact .inr (h.grown hg fun b hb ⟨cu, e⟩ => by obtain ⟨c2, e2⟩ := ints_ty k hb; exact absurd (ty_ne e e2) (by decide))
theorem TbW.grownInts {w W W' : World} {v V : Value} {T : List Lk.It} {base : Nat} {R : List Int} (h : TbW w W v T) (k : OwnInts W base V R) (hbase : w.heap.size ≤ base) (hg : W.grownBy W' V.ownBlock) : TbW w W' v T := by
  obtain ⟨P, h1, h2, h3⟩ := h.row
  refine ⟨h.bel.grown hg h.bel.size (fun g hg => Nat.le_trans hbase (k.lt g hg).1), P, h1.keep fun g hv => hg.block g (h1.lt g hv).2 (fun e => ?_), h2, fun j x y hx hy => ⟨(h3 j x y hx hy).i, (h3 j x y hx hy).h.grownInts k hg, (h3 j x y hx hy).q.grownInts k hg⟩⟩
  obtain ⟨c1, e1⟩ := items_ty h1 hv
  obtain ⟨c2, e2⟩ := ints_ty k e.symm
  exact absurd (ty_ne e1 e2) (by decide)
theorem TbW.ints {w W W' : World} {v V : Value} {T : List Lk.It} {base : Nat} {R : List Int} (h : TbW w W v T) (k : OwnInts W base V R) (hg : W.grownBy W' v.ownBlock) : OwnInts W' base V R := by
  obtain ⟨P, h1, h2, h3⟩ := h.row
  exact ints_grown h1 k hg

/-- How all stands: the item in its box, the table, the list. -/
structure RD (w wr : World) (b : Nat) (i : Int) (vh vq : Value) (H Q : List Lk.Lo) (V G : Value) (T : List Lk.It) (R : List Int) : Prop where
  blk : wr.heap[b]? = some (.cells #[.int .i64 i, vh, vq] 57 (0, 0))
  ge : w.heap.size ≤ b
  oh : LsW w wr vh H
  oq : LsW w wr vq Q
  tb : TbW w wr V T
  tn : V.ownBlock ≠ some b
  og : OwnInts wr w.heap.size G R
theorem RD.nty {w wr : World} {b : Nat} {i : Int} {vh vq V G : Value} {H Q : List Lk.Lo} {T : List Lk.It} {R : List Int} (h : RD w wr b i vh vq H Q V G T R) : ¬ TyAt wr b := fun ⟨cu, e⟩ => absurd (ty_ne e h.blk) (by decide)
theorem RD.arr {w wr : World} {b : Nat} {i : Int} {vh vq V G : Value} {H Q : List Lk.Lo} {T : List Lk.It} {R : List Int} (h : RD w wr b i vh vq H Q V G T R) : ArrAt wr b #[.int .i64 i, vh, vq] := ⟨_, h.blk⟩
theorem RD.below {w wr W : World} {b : Nat} {i : Int} {vh vq V G : Value} {H Q : List Lk.Lo} {T : List Lk.It} {R : List Int} (h : RD w wr b i vh vq H Q V G T R) (hb : Below wr.heap.size wr W) : RD w W b i vh vq H Q V G T R :=
  ⟨(hb.block _ (lt_of_heap h.blk)).trans h.blk, h.ge, h.oh.below hb, h.oq.below hb, h.tb.below hb, h.tn, h.og.below hb⟩
theorem RD.set {w wr : World} {b : Nat} {i : Int} {vh vq V G : Value} {H Q : List Lk.Lo} {T : List Lk.It} {R : List Int} (h : RD w wr b i vh vq H Q V G T R) (j : Nat) (v : Value) (hk : ∀ g, g ≠ b → (wr.setCell ⟨b, j, none⟩ v).heap[g]? = wr.heap[g]?) :
    TbW w (wr.setCell ⟨b, j, none⟩ v) V T ∧ OwnInts (wr.setCell ⟨b, j, none⟩ v) w.heap.size G R ∧ (∀ u L, LsW w wr u L → LsW w (wr.setCell ⟨b, j, none⟩ v) u L) ∧ (wr.setCell ⟨b, j, none⟩ v).heap[b]? = some (.cells ((#[.int .i64 i, vh, vq] : Array Value).setIfInBounds j v) 57 (0, 0)) := by
  refine ⟨h.tb.ne h.nty h.tn (h.tb.bel.setCell (p := ⟨b, j, none⟩) h.ge _) hk, h.og.keep fun g hg => hk g (fun e => ?_), fun u L hu => hu.ne h.nty hk, ?_⟩
  · subst e
    obtain ⟨c2, e2⟩ := ints_ty h.og hg
    exact absurd (ty_ne h.blk e2) (by decide)
  · rw [setCell_eq_setRow wr b j _ _ _ v h.blk]
    exact setRow_heap wr b _ _ _ _ h.blk
theorem RD.put0 {w wr : World} {b : Nat} {i : Int} {vh vq V G : Value} {H Q : List Lk.Lo} {T : List Lk.It} {R : List Int} (h : RD w wr b i vh vq H Q V G T R) : RD w (wr.setCell ⟨b, 0, none⟩ (.int .i64 i)) b i vh vq H Q V G T R := by
  obtain ⟨h1, h2, h3, h4⟩ := h.set 0 (.int .i64 i) (fun g hg => Below.heap_setCell _ ⟨b, 0, none⟩ _ _ hg)
  exact ⟨h4, h.ge, h3 _ _ h.oh, h3 _ _ h.oq, h1, h.tn, h2⟩
theorem RD.put1 {w wr : World} {b : Nat} {i : Int} {vh vq V G : Value} {H Q : List Lk.Lo} {T : List Lk.It} {R : List Int} (h : RD w wr b i vh vq H Q V G T R) {v : Value} {L : List Lk.Lo} (hv : LsW w wr v L) : RD w (wr.setCell ⟨b, 1, none⟩ v) b i v vq L Q V G T R := by
  obtain ⟨h1, h2, h3, h4⟩ := h.set 1 v (fun g hg => Below.heap_setCell _ ⟨b, 1, none⟩ _ _ hg)
  exact ⟨h4, h.ge, h3 _ _ hv, h3 _ _ h.oq, h1, h.tn, h2⟩
theorem RD.put2 {w wr : World} {b : Nat} {i : Int} {vh vq V G : Value} {H Q : List Lk.Lo} {T : List Lk.It} {R : List Int} (h : RD w wr b i vh vq H Q V G T R) {v : Value} {L : List Lk.Lo} (hv : LsW w wr v L) : RD w (wr.setCell ⟨b, 2, none⟩ v) b i vh v H L V G T R := by
  obtain ⟨h1, h2, h3, h4⟩ := h.set 2 v (fun g hg => Below.heap_setCell _ ⟨b, 2, none⟩ _ _ hg)
  exact ⟨h4, h.ge, h3 _ _ h.oh, h3 _ _ hv, h1, h.tn, h2⟩
/-- The whole item laid over. -/
theorem RD.put3 {w wr : World} {b : Nat} {i : Int} {vh vq V G : Value} {H Q : List Lk.Lo} {T : List Lk.It} {R : List Int} (h : RD w wr b i vh vq H Q V G T R) {v u : Value} {L M : List Lk.Lo} (hv : LsW w wr v L) (hu : LsW w wr u M) :
    RD w (((wr.setCell ⟨b, 0, none⟩ (.int .i64 i)).setCell ⟨b, 1, none⟩ v).setCell ⟨b, 2, none⟩ u) b i v u L M V G T R := by
  have n0 := (h.set 0 (.int .i64 i) (fun g hg => Below.heap_setCell _ ⟨b, 0, none⟩ _ _ hg)).2.2.1
  have h0 := h.put0
  have n1 := (h0.set 1 v (fun g hg => Below.heap_setCell _ ⟨b, 1, none⟩ _ _ hg)).2.2.1
  exact (h0.put1 (n0 _ _ hv)).put2 (n1 _ _ (n0 _ _ hu))
theorem RD.ints {w wr W : World} {b : Nat} {i : Int} {vh vq V G G' : Value} {H Q : List Lk.Lo} {T : List Lk.It} {R R' : List Int} (h : RD w wr b i vh vq H Q V G T R) (hg : wr.grownBy W G.ownBlock) (ho : OwnInts W w.heap.size G' R') : RD w W b i vh vq H Q V G' T R' :=
  ⟨(hg.block _ (lt_of_heap h.blk) (fun e => by obtain ⟨c2, e2⟩ := ints_ty h.og e.symm; exact absurd (ty_ne h.blk e2) (by decide))).trans h.blk, h.ge, h.oh.grownInts h.og hg, h.oq.grownInts h.og hg, h.tb.grownInts h.og (Nat.le_refl _) hg, h.tn, ho⟩
theorem RD.cells {w wr : World} {b : Nat} {i : Int} {vh vq V G : Value} {H Q : List Lk.Lo} {T : List Lk.It} {R : List Int} (h : RD w wr b i vh vq H Q V G T R) : wr.cell? ⟨b, 0, none⟩ = some (.int .i64 i) ∧ wr.cell? ⟨b, 1, none⟩ = some vh ∧ wr.cell? ⟨b, 2, none⟩ = some vq ∧ wr.frozen? ⟨b, 0, none⟩ = false ∧ wr.frozen? ⟨b, 1, none⟩ = false ∧ wr.frozen? ⟨b, 2, none⟩ = false :=
  ⟨h.arr.cell rfl, h.arr.cell rfl, h.arr.cell rfl, h.arr.fz 0, h.arr.fz 1, h.arr.fz 2⟩

/-- Does the first of the queue go? -/
def goes1 (H : List Lk.Lo) : List Lk.Lo → Bool
  | [] => false
  | q :: _ => Lk.can H q
theorem goes1_not {H Q : List Lk.Lo} (h : goes1 H Q = false) : Lk.wake H Q = (H, Q, []) := by
  cases Q with
  | nil => rfl
  | cons q Q =>
    unfold Lk.wake
    rw [if_neg (by rw [show Lk.can H q = false from h]; simp)]
theorem goes1_yes {H : List Lk.Lo} {q : Lk.Lo} {Q : List Lk.Lo} (h : goes1 H (q :: Q) = true) : Lk.wake H (q :: Q) = ((Lk.wake (Lk.give H q) Q).1, (Lk.wake (Lk.give H q) Q).2.1, q.x :: (Lk.wake (Lk.give H q) Q).2.2) := by
  rw [Lk.wake, if_pos (show Lk.can H q = true from h)]
/-- Where the list lies without its first. -/
def tlA (b o c : Nat) : Option Addr := if c = 1 then some ⟨b, o, none⟩ else some ⟨b, o + 2, none⟩
theorem tlA_run (b o n c : Nat) (W : World) (hc : n + 1 ≤ c) : (Instr.slice 55 (.slice (some ⟨b, o, none⟩) (n + 1) c) (some (.int .i64 1)) none none).run Try.prog W = .ok (.slice (tlA b o c) n (c - 1)) W := by
  have u := Try.underlying55
  have z := Try.sizeOf65
  unfold tlA
  by_cases hc1 : c = 1
  · have hn0 : n = 0 := by omega
    subst hc1; subst hn0
    go_simp
  · have k1 : (1 : Int) ≤ (n : Int) + 1 := by omega
    rw [if_neg hc1]
    go_simp
theorem tlA_lk {w : World} {b o c : Nat} {q : Lk.Lo} {Q : List Lk.Lo} (h : LkAt w (some ⟨b, o, none⟩) (q :: Q)) (hc : Q.length + 1 ≤ c) : LkAt w (tlA b o c) Q := by
  unfold tlA
  by_cases hc1 : c = 1
  · have : Q = [] := List.eq_nil_of_length_eq_zero (by omega)
    subst this
    exact LkAt.nil _ _
  · rw [if_neg hc1]
    have := h.drop 1
    simpa using this
theorem tlA_some (b o c : Nat) : ∃ p, tlA b o c = some p ∧ p.block = b := by
  unfold tlA
  split <;> exact ⟨_, rfl, rfl⟩
theorem LsAt.tl {w : World} {b o c : Nat} {q : Lk.Lo} {Q : List Lk.Lo} (h : LsAt w (.slice (some ⟨b, o, none⟩) (Q.length + 1) c) (q :: Q)) : LsAt w (.slice (tlA b o c) Q.length (c - 1)) Q := by
  obtain ⟨a', c', e, h1, h2, h3, h4⟩ := h
  injection e with e1 e2 e3
  subst e1; subst e3
  rw [List.length_cons] at h2
  obtain ⟨p, hp, _⟩ := tlA_some b o c
  exact ⟨_, _, rfl, tlA_lk h1 h2, by omega, by omega, fun e => by rw [hp] at e; cases e⟩
theorem LsIn.tl {w : World} {base b o c : Nat} {q : Lk.Lo} {Q : List Lk.Lo} (h : LsIn w base (.slice (some ⟨b, o, none⟩) (Q.length + 1) c) (q :: Q)) : LsIn w base (.slice (tlA b o c) Q.length (c - 1)) Q := by
  obtain ⟨a', c', e, h1, h2, h3, h4, h5⟩ := h
  injection e with e1 e2 e3
  subst e1; subst e3
  rw [List.length_cons] at h2
  obtain ⟨p, hp, hb⟩ := tlA_some b o c
  have hno : tlA b o c = none → c - 1 = 0 := fun e => by rw [hp] at e; cases e
  refine ⟨_, _, rfl, tlA_lk h1 h2, by omega, by omega, hno, fun p' hp' => ?_⟩
  rw [hp] at hp'
  cases hp'
  rw [hb]
  exact h5 _ rfl
theorem LsW.tl {w W : World} {b o c : Nat} {q : Lk.Lo} {Q : List Lk.Lo} (h : LsW w W (.slice (some ⟨b, o, none⟩) (Q.length + 1) c) (q :: Q)) : LsW w W (.slice (tlA b o c) Q.length (c - 1)) Q := by
  rcases h with h | h
  · exact .inl h.tl
  · exact .inr h.tl
end Go.Proofs.Ytjoaedkgjnchoac.PLock
