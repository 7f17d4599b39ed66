/- How a store of nodes stands in the midst of a call: what is kept, what an insert, a delete, an entry laid over another one leave; slices.Insert, Delete as the tree calls them. -/
import Derived.Test.YtlefcjgemojhpabTreeSeek
import Derived.Deep.DeepCutAuto
import Derived.Deep.RegionLaw
namespace Go.Proofs.Ytlefcjgemojhpab.PTree
open Go Go.RowKit PPool
set_option maxRecDepth 100000
theorem goes_cell {a b : Nat → Prop} {w w1 : World} (g : Goes a w w1 b) {q : Addr} {v : Value} (h : w.cell? q = some v) (hn : ¬ a q.block) : w1.cell? q = some v :=
  (World.cell?_of_block (g.block q.block (World.block_lt_of_cell? w _ h) hn)).trans h
theorem goes_frz {a b : Nat → Prop} {w w1 : World} (g : Goes a w w1 b) {q : Addr} (h : w.frozen? q = false) (hq : q.block < w.heap.size) (hn : ¬ a q.block) : w1.frozen? q = false :=
  (frozen_of_block (g.block q.block hq hn)).trans h
theorem cell_set2 {w : World} {q : Addr} {g i j : Nat} {u v x : Value} (h : w.cell? q = some x) (hn : q.block ≠ g) : ((w.setCell ⟨g, i, none⟩ u).setCell ⟨g, j, none⟩ v).cell? q = some x := by
  rw [World.cell?_setCell_other _ _ _ _ (by intro e; subst e; exact hn rfl), World.cell?_setCell_other _ _ _ _ (by intro e; subst e; exact hn rfl)]
  exact h
/-- A node's rows: no other node's block is theirs. -/
structure Apart (w : World) (o : Lab) (p : Nat) (ae ab : Option Addr) : Prop where
  self : o p = some (p, 0)
  e : ∀ b q s, ae = some ⟨b, q, s⟩ → o b = some (p, 1)
  b : ∀ b q s, ab = some ⟨b, q, s⟩ → o b = some (p, 2)
theorem Mem.apart {w : World} {o : Lab} {M : Sto} (h : Mem w o M) {p : Nat} {n : Nn} (hp : M p = some n) {ae ab : Option Addr} {ce cb : Nat} (op : Opn w p n ae ce ab cb) : Apart w o p ae ab := by
  obtain ⟨ve, vb, h1, h2, h3, h4, h5, h6⟩ := h.at_ p n hp
  have e1 : ve = .slice ae n.es.length ce := by have := h1.c0.symm.trans op.at_.c0; exact Option.some.inj this
  have e2 : vb = .slice ab n.cs.length cb := by have := h1.c1.symm.trans op.at_.c1; exact Option.some.inj this
  subst e1; subst e2
  exact ⟨h2, fun b q s e => h5 b (by rw [e]; rfl), fun b q s e => h6 b (by rw [e]; rfl)⟩
/-- Blocks of unlike owners are unlike. -/
theorem lab_ne {o : Lab} {a b : Nat} {x y : Nat × Nat} (h1 : o a = some x) (h2 : o b = some y) (h : x ≠ y) : a ≠ b := fun e => by subst e; rw [h1] at h2; exact h (Option.some.inj h2)
theorem not_own {o : Lab} {ae : Option Addr} {n c b p i : Nat} {x : Nat × Nat} (h1 : ∀ b q s, ae = some ⟨b, q, s⟩ → o b = some (p, i)) (h2 : o b = some x) (h : x ≠ (p, i)) : ¬ ownB (.slice ae n c) b := by
  intro e
  cases ae with
  | none => cases e
  | some a =>
    obtain ⟨b', q, s⟩ := a
    have : b' = b := by simpa [ownB, Value.ownBlock] using e
    subst this
    have := h1 _ _ _ rfl
    rw [this] at h2
    exact h (Option.some.inj h2).symm
/-- How all stands in the midst of a call. -/
structure Now (w0 : World) (o0 : Lab) (w : World) (o : Lab) (M : Sto) : Prop where
  mem : Mem w o M
  go : Gos o0 w0 w o
theorem Now.below {w0 w w' : World} {o0 o : Lab} {M : Sto} (h : Now w0 o0 w o M) (hb : Below w.heap.size w w') : Now w0 o0 w' o M :=
  ⟨h.mem.below hb, h.go.trans (Gos.of_below hb)⟩
theorem Now.setE {w0 w w1 w2 : World} {o0 o : Lab} {M : Sto} (h : Now w0 o0 w o M) {p : Nat} {n : Nn} (hp : M p = some n) {ve ve' : Value} {es' : List En} (hc : w.cell? ⟨p, 0, none⟩ = some ve)
    (g : Goes (ownB ve) w w1 (ownB ve')) (r : TE.OwnPg w1 0 ve' es') (e2 : w2 = w1.setCell ⟨p, 0, none⟩ ve') : ∃ o', Now w0 o0 w2 o' (M.put p ⟨es', n.cs⟩) := by
  obtain ⟨o', h1, h2⟩ := h.mem.setE hp hc g r e2
  exact ⟨o', h1, h.go.trans h2⟩
theorem Now.setP {w0 w w1 w2 : World} {o0 o : Lab} {M : Sto} (h : Now w0 o0 w o M) {p : Nat} {n : Nn} (hp : M p = some n) {ve ve' : Value} {cs' : List Nat} (hc : w.cell? ⟨p, 1, none⟩ = some ve)
    (g : Goes (ownB ve) w w1 (ownB ve')) (r : TP.OwnPg w1 0 ve' (cs'.map pt)) (e2 : w2 = w1.setCell ⟨p, 1, none⟩ ve') : ∃ o', Now w0 o0 w2 o' (M.put p ⟨n.es, cs'⟩) := by
  obtain ⟨o', h1, h2⟩ := h.mem.setP hp hc g r e2
  exact ⟨o', h1, h.go.trans h2⟩
theorem Now.setRowE {w0 w w1 : World} {o0 o : Lab} {M : Sto} (h : Now w0 o0 w o M) {p : Nat} {n : Nn} (hp : M p = some n) {ve : Value} {es' : List En} (hc : w.cell? ⟨p, 0, none⟩ = some ve)
    (g : Goes (ownB ve) w w1 (ownB ve)) (r : TE.OwnPg w1 0 ve es') : Now w0 o0 w1 o (M.put p ⟨es', n.cs⟩) := by
  obtain ⟨h1, h2⟩ := h.mem.setRowE hp hc g r
  exact ⟨h1, h.go.trans h2⟩
theorem ad (w : World) (o : Obj) : Below w.heap.size w (w.alloc o).drew := (bx w o).drew
theorem insE {W : World} {v : Value} {vb : Nat} {X : List En} {z k : Int} {t : ByteArray} (i : Nat) (hz : z = (i : Int)) (hO : TE.OwnPg W 0 v X) (hv : W.heap[vb]? = some (.cells #[.int .i64 k, .string t] 87 (0, 0)))
    (hne : v.ownBlock ≠ some vb) (hl : X.length ≤ 2000) (hi : i ≤ X.length) : Calls Try.prog 61 #[v, .int .i64 z, .slice (some ⟨vb, 0, none⟩) 1 1] W fun e w' =>
      ∃ v', e = .returned v' ∧ TE.OwnPg w' 0 v' (X.take i ++ ⟨k, t⟩ :: X.drop i) ∧ Goes (ownB v) W w' (ownB v') := by
  subst hz
  exact TE.insert_any W 0 v i vb X ⟨k, t⟩ hO hv hne hl hi (Nat.zero_le _)
theorem insP {W : World} {v : Value} {vb : Nat} {X : List Nat} {z : Int} {c : Nat} (i : Nat) (hz : z = (i : Int)) (hO : TP.OwnPg W 0 v (X.map pt)) (hv : W.heap[vb]? = some (.cells #[.pointer (some ⟨c, 0, none⟩)] 82 (0, 0)))
    (hne : v.ownBlock ≠ some vb) (hl : X.length ≤ 2000) (hi : i ≤ X.length) : Calls Try.prog 77 #[v, .int .i64 z, .slice (some ⟨vb, 0, none⟩) 1 1] W fun e w' =>
      ∃ v', e = .returned v' ∧ TP.OwnPg w' 0 v' ((X.take i ++ c :: X.drop i).map pt) ∧ Goes (ownB v) W w' (ownB v') := by
  subst hz
  have := TP.insert_any W 0 v i vb (X.map pt) (pt c) hO hv hne (by simpa using hl) (by simpa using hi) (Nat.zero_le _)
  simpa using this
theorem own_alloc_ne {w : World} {b : Nat} {v : Value} {X : List En} (h : TE.OwnPg w b v X) : v.ownBlock ≠ some w.heap.size := fun e => by have := (h.lt _ e).2; omega
theorem own_alloc_ne' {w : World} {b : Nat} {v : Value} {X : List TP.Pt} (h : TP.OwnPg w b v X) : v.ownBlock ≠ some w.heap.size := fun e => by have := (h.lt _ e).2; omega
theorem own_eq {g n c : Nat} {w w' : World} {n' c' : Nat} (h : Goes (fun b => b = g) w w' (fun b => b = g)) : Goes (ownB (.slice (some ⟨g, 0, none⟩) n c)) w w' (ownB (.slice (some ⟨g, 0, none⟩) n' c')) :=
  ⟨h.os, h.tape, h.output, h.size, fun k hk hn => h.block k hk fun e => hn (by subst e; rfl), fun k hk => by
    have : g = k := by simpa [ownB, Value.ownBlock] using hk
    subst this
    exact .inl rfl⟩
theorem delE {W : World} {g n c : Nat} {X : List En} {zk zj : Int} (k j : Nat) (hk : zk = (k : Int)) (hj : zj = (j : Int)) (hn : X.length = n) (hO : TE.OwnPg W 0 (.slice (some ⟨g, 0, none⟩) n c) X) (h1 : k < j) (h2 : j ≤ n) (h3 : n ≤ 2000) :
    Calls Try.prog 58 #[.slice (some ⟨g, 0, none⟩) n c, .int .i64 zk, .int .i64 zj] W fun e w' =>
      ∃ v', e = .returned v' ∧ TE.OwnPg w' 0 v' (X.take k ++ X.drop j) ∧ Goes (ownB (.slice (some ⟨g, 0, none⟩) n c)) W w' (ownB v') := by
  subst hk; subst hj
  refine (TE.delete_any W 0 g c k j n (k + (n - j)) X hn hO h1 h2 rfl h3).mono ?_
  rintro e w' ⟨rfl, h4, h5⟩
  exact ⟨_, rfl, h4, own_eq h5⟩
theorem delP {W : World} {g n c : Nat} {X : List Nat} {zk zj : Int} (k j : Nat) (hk : zk = (k : Int)) (hj : zj = (j : Int)) (hn : X.length = n) (hO : TP.OwnPg W 0 (.slice (some ⟨g, 0, none⟩) n c) (X.map pt)) (h1 : k < j) (h2 : j ≤ n) (h3 : n ≤ 2000) :
    Calls Try.prog 76 #[.slice (some ⟨g, 0, none⟩) n c, .int .i64 zk, .int .i64 zj] W fun e w' =>
      ∃ v', e = .returned v' ∧ TP.OwnPg w' 0 v' ((X.take k ++ X.drop j).map pt) ∧ Goes (ownB (.slice (some ⟨g, 0, none⟩) n c)) W w' (ownB v') := by
  subst hk; subst hj
  refine (TP.delete_any W 0 g c k j n (k + (n - j)) (X.map pt) (by simpa using hn) hO h1 h2 rfl h3).mono ?_
  rintro e w' ⟨rfl, h4, h5⟩
  exact ⟨_, rfl, by simpa using h4, own_eq h5⟩
theorem Now.entry {w0 w : World} {o0 o : Lab} {M : Sto} (h : Now w0 o0 w o M) {p : Nat} {n : Nn} (hp : M p = some n) {g m c : Nat} (hc : w.cell? ⟨p, 0, none⟩ = some (.slice (some ⟨g, 0, none⟩) m c))
    (hO : TE.OwnPg w 0 (.slice (some ⟨g, 0, none⟩) m c) n.es) (i : Nat) (hi : i < n.es.length) (u : Int) (t : ByteArray) :
    Now w0 o0 ((w.setCell ⟨g, i * 2, none⟩ (.int .i64 u)).setCell ⟨g, i * 2 + 1, none⟩ (.string t)) o (M.put p ⟨n.es.set i ⟨u, t⟩, n.cs⟩) := by
  refine h.setRowE hp hc ?_ (hO.put i hi u t)
  exact own_eq (((Goes.refl (fun b => b = g) w).setCell (q := ⟨g, i * 2, none⟩) (.inl rfl) _).setCell (q := ⟨g, i * 2 + 1, none⟩) (.inl rfl) _)
theorem Now.drew {w0 w : World} {o0 o : Lab} {M : Sto} (h : Now w0 o0 w o M) : Now w0 o0 w.drew o M := h.below (Below.refl _ _).drew
end Go.Proofs.Ytlefcjgemojhpab.PTree
