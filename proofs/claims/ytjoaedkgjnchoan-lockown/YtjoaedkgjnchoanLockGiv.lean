/- lock.give, walked: the lock is given in the item that the pointer tells, whose list is its own; no other block turns. Conditions: how many locks there are. -/
import Derived.Test.YtjoaedkgjnchoanLockWo
import Derived.Test.YtjoaedkgjnchoanLockPl
import Derived.Deep.RegionLaw
namespace Go.Proofs.Ytjoaedkgjnchoan.PLock
open Go Go.RowKit PPool
set_option maxRecDepth 100000

/-- An item's three cells, somewhere in a block that is known whole. -/
structure Spot (w : World) (pb po : Nat) (T : TypeId) (A : Array Value) (x y z : Value) : Prop where
  blk : w.heap[pb]? = some (.cells A T (0, 0))
  c0 : A[po]? = some x
  c1 : A[po + 1]? = some y
  c2 : A[po + 2]? = some z
theorem Spot.cells {w : World} {pb po : Nat} {T : TypeId} {A : Array Value} {x y z : Value} (h : Spot w pb po T A x y z) : w.cell? ⟨pb, po, none⟩ = some x ∧ w.cell? ⟨pb, po + 1, none⟩ = some y ∧ w.cell? ⟨pb, po + 2, none⟩ = some z ∧ w.frozen? ⟨pb, po + 1, none⟩ = false ∧ w.frozen? ⟨pb, po + 2, none⟩ = false :=
  ⟨(cell_of_row w pb _ A T _ h.blk).trans h.c0, (cell_of_row w pb _ A T _ h.blk).trans h.c1, (cell_of_row w pb _ A T _ h.blk).trans h.c2, by simp [World.frozen?, h.blk], by simp [World.frozen?, h.blk]⟩
theorem Spot.below {w w' : World} {pb po : Nat} {T : TypeId} {A : Array Value} {x y z : Value} (h : Spot w pb po T A x y z) (hb : Below w.heap.size w w') : Spot w' pb po T A x y z :=
  ⟨(hb.block _ (lt_of_heap h.blk)).trans h.blk, h.c0, h.c1, h.c2⟩
theorem Spot.goes {w w' : World} {own own' : Nat → Prop} {pb po : Nat} {T : TypeId} {A : Array Value} {x y z : Value} (h : Spot w pb po T A x y z) (hg : Goes own w w' own') (hn : ¬ own pb) : Spot w' pb po T A x y z :=
  ⟨(hg.block _ (lt_of_heap h.blk) hn).trans h.blk, h.c0, h.c1, h.c2⟩
theorem lt_of_some {A : Array Value} {j : Nat} {v : Value} (h : A[j]? = some v) : j < A.size := (Array.getElem?_eq_some_iff.1 h).1
theorem Spot.put1 {w : World} {pb po : Nat} {T : TypeId} {A : Array Value} {x y z : Value} (h : Spot w pb po T A x y z) (v : Value) : Spot (w.setCell ⟨pb, po + 1, none⟩ v) pb po T (A.setIfInBounds (po + 1) v) x v z := by
  have l1 := lt_of_some h.c1
  refine ⟨?_, ?_, ?_, ?_⟩
  · rw [setCell_eq_setRow w pb (po + 1) A T _ v h.blk]
    exact setRow_heap w pb A _ T _ h.blk
  · rw [Array.getElem?_setIfInBounds, if_neg (by omega)]; exact h.c0
  · rw [Array.getElem?_setIfInBounds, if_pos rfl, if_pos l1]
  · rw [Array.getElem?_setIfInBounds, if_neg (by omega)]; exact h.c2
theorem Spot.put2 {w : World} {pb po : Nat} {T : TypeId} {A : Array Value} {x y z : Value} (h : Spot w pb po T A x y z) (v : Value) : Spot (w.setCell ⟨pb, po + 2, none⟩ v) pb po T (A.setIfInBounds (po + 2) v) x y v := by
  have l1 := lt_of_some h.c2
  refine ⟨?_, ?_, ?_, ?_⟩
  · rw [setCell_eq_setRow w pb (po + 2) A T _ v h.blk]
    exact setRow_heap w pb A _ T _ h.blk
  · rw [Array.getElem?_setIfInBounds, if_neg (by omega)]; exact h.c0
  · rw [Array.getElem?_setIfInBounds, if_neg (by omega)]; exact h.c1
  · rw [Array.getElem?_setIfInBounds, if_pos rfl, if_pos l1]
theorem set_same {A : Array Value} {j : Nat} {v : Value} (h : A[j]? = some v) : A.setIfInBounds j v = A := by
  apply Array.ext_getElem?
  intro k
  rw [Array.getElem?_setIfInBounds]
  by_cases e : j = k
  · subst e; rw [if_pos rfl, if_pos (lt_of_some h), h]
  · rw [if_neg e]

theorem box_back {W w3 : World} {x y : Value} {T : TypeId} (hb : Below (W.drew.alloc (.cells #[x, y] T)).heap.size (W.drew.alloc (.cells #[x, y] T)) w3) :
    w3.cell? ⟨W.heap.size, 0, none⟩ = some x ∧ w3.cell? ⟨W.heap.size, 1, none⟩ = some y ∧ w3.frozen? ⟨W.heap.size, 0, none⟩ = false ∧ w3.frozen? ⟨W.heap.size, 1, none⟩ = false := by
  have hg : w3.heap[W.heap.size]? = some (.cells #[x, y] T (0, 0)) := (hb.block _ (by simp)).trans (heap_alloc_new W.drew _)
  exact ⟨by rw [cell_of_row w3 _ _ _ _ _ hg]; rfl, by rw [cell_of_row w3 _ _ _ _ _ hg]; rfl, by simp [World.frozen?, hg], by simp [World.frozen?, hg]⟩
theorem one_at (W : World) (t y : Int) : LkAt (W.alloc (.cells #[.int .i64 t, .int .i64 y] 62)) (some ⟨W.heap.size, 0, none⟩) [⟨t, y⟩] := fun j x hj => by
  have hg := heap_alloc_new W (.cells #[.int .i64 t, .int .i64 y] 62)
  match j, hj with
  | 0, hj =>
    cases hj
    exact ⟨_, 0, rfl, by rw [cell_of_row _ _ _ _ _ _ hg]; rfl, by rw [cell_of_row _ _ _ _ _ _ hg]; rfl⟩
theorem Spot.grown {w w' : World} {row : Option Nat} {pb po : Nat} {T : TypeId} {A : Array Value} {x y z : Value} (h : Spot w pb po T A x y z) (hg : w.grownBy w' row) (hn : row ≠ some pb) : Spot w' pb po T A x y z :=
  ⟨(hg.block _ (lt_of_heap h.blk) (fun e => hn e.symm)).trans h.blk, h.c0, h.c1, h.c2⟩
/-- A list's block is none of another type. -/
theorem own_ne {w : World} {base pb : Nat} {v : Value} {L : List Lk.Lo} {T : TypeId} {A : Array Value} (h : OwnLk w base v L) (hb : w.heap[pb]? = some (.cells A T (0, 0))) (hT : T ≠ 62) : v.ownBlock ≠ Option.some pb := by
  rcases h.2 with ⟨rfl, _⟩ | ⟨g, cap, cur, rfl, _, hh, _⟩
  · intro e; cases e
  · intro e
    have e : g = pb := Option.some.inj e
    subst e
    rw [hh] at hb
    injection hb with hb
    injection hb with _ h2
    exact hT h2.symm
theorem goes_app {w W w' : World} {row : Option Nat} {g : Nat} (hb : Below w.heap.size w W) (hg : W.grownBy w' row) (hat : row = Option.some g ∨ g = W.heap.size) : Goes (fun b => row = Option.some b) w w' (fun b => b = g) :=
  ⟨hg.os.trans hb.os, hg.tape.trans hb.tape, hg.output.trans hb.output, Nat.le_trans hb.size hg.size, fun k hk hn => (hg.block k (Nat.lt_of_lt_of_le hk hb.size) (fun e => hn e.symm)).trans (hb.block k hk), fun k hk => by
    have hk : k = g := hk
    subst hk
    rcases hat with h | h
    · exact .inl h
    · right; rw [h]; exact hb.size⟩
/-- Whose blocks a call at an item may turn: the item's, and its list's. -/
abbrev ownP (pb : Nat) (v : Value) : Nat → Prop := fun b => b = pb ∨ v.ownBlock = some b

set_option maxHeartbeats 4000000 in
theorem give_any (w : World) (base pb po : Nat) (T : TypeId) (A : Array Value) (i : Int) (vh vq : Value) (H : List Lk.Lo) (l : Lk.Lo) (hs : Spot w pb po T A (.int .i64 i) vh vq) (hH : OwnLk w base vh H) (hT : T ≠ 62) (hb : base ≤ w.heap.size) (hl : H.length ≤ 2000) :
    Calls Try.prog 70 #[.pointer (some ⟨pb, po, none⟩), .agg #[.int .i64 l.x, .int .i64 l.m]] w fun e w' => ∃ vh', e = .returned (.tuple #[]) ∧ Spot w' pb po T (A.setIfInBounds (po + 1) vh') (.int .i64 i) vh' vq ∧ OwnLk w' base vh' (Lk.give H l) ∧ Goes (ownP pb vh) w w' (ownP pb vh') := by
  obtain ⟨t, m⟩ := l
  simp only
  have hne := own_ne hH hs.blk hT
  obtain ⟨a, c, rfl, hp, hg, h1, h2⟩ := hH.at_
  have KW := hid fun W hW => wish_any W (.int .i64 i) a c H vq ⟨t, m⟩ (hp.below hW) (by omega)
  have KP := hid fun W hW => placeIn_any W a c H t (hp.below hW) (by omega)
  simp only at KW
  obtain ⟨y, hy⟩ : ∃ y, y = Lk.wish H ⟨t, m⟩ := ⟨_, rfl⟩
  have HG : Hid (Lk.give H ⟨t, m⟩ = if Lk.has H t then H.set (Lk.pl H t) ⟨t, y⟩ else H ++ [⟨t, y⟩]) := by rw [hy]; rfl
  obtain ⟨R, hR⟩ : ∃ R, R = Lk.give H ⟨t, m⟩ := ⟨_, rfl⟩
  rw [← hy] at KW
  rw [← hR] at HG ⊢
  clear hy hR
  obtain ⟨s0, s1, s2, s3, s4⟩ := hs.cells
  have hpl := lt_of_heap hs.blk
  have S := hid hs
  have O := hid hH
  have sb : ∀ W, Below w.heap.size w W → _ := fun W hW => (hs.below hW).cells
  have SB := hid sb
  obtain ⟨N, hN⟩ : ∃ N, N = H.length := ⟨_, rfl⟩
  rw [← hN] at KW KP s1 SB S O
  have hl2 : N ≤ 2000 := by omega
  have HN := hid hN
  clear hs hH sb hp hg hN hl h1
  obtain ⟨B, hB⟩ : ∃ B, B = w.heap.size := ⟨_, rfl⟩
  have lb : ∀ W, Below (w.alloc (.cells #[.int .i64 t, .int .i64 m] 62)).heap.size (w.alloc (.cells #[.int .i64 t, .int .i64 m] 62)) W → W.cell? ⟨B, 0, none⟩ = some (.int .i64 t) ∧ W.cell? ⟨B, 1, none⟩ = some (.int .i64 m) := fun W hW => by rw [hB]; exact box2 hW
  have LB := hid lb
  clear lb
  have HB := hid hB
  obtain ⟨W0, hW0⟩ : ∃ W0, W0 = w.alloc (.cells #[.int .i64 t, .int .i64 m] 62) := ⟨_, rfl⟩
  have B0 : Hid (Below w.heap.size w W0) := by show Below _ _ _; rw [hW0]; exact bx _ _
  have hs0 : Hid (W0.heap.size = B + 1) := by show _ = _; rw [hW0, hB]; simp
  rw [← hW0] at LB
  have SC : Hid (∀ W, Below W0.heap.size W0 W → W.cell? ⟨pb, po, none⟩ = some (.int .i64 i) ∧ W.cell? ⟨pb, po + 1, none⟩ = some (.slice a N c) ∧ W.cell? ⟨pb, po + 2, none⟩ = some vq ∧ W.cell? ⟨B, 0, none⟩ = some (.int .i64 t) ∧ W.cell? ⟨B, 1, none⟩ = some (.int .i64 m)) := fun W hW => by
    obtain ⟨x0, x1, x2, _⟩ := SB.out W (below_tr B0.out hW)
    obtain ⟨y0, y1⟩ := LB.out W hW
    exact ⟨x0, x1, x2, y0, y1⟩
  have HBI : Hid (w.heap.size = B) := hB.symm
  have HW0 := hid hW0
  clear LB SB s0 s1 s2 s3 s4 hW0 hB
  go_enter Try.func70, Try.ntmps70
  go_upto_region 1 with fail
  rw [← HW0.out, HBI.out]
  obtain ⟨x0, x1, x2, y0, y1⟩ := SC.out W0 (Below.refl _ _)
  clear HW0 HBI
  go_cut [4] from 6 to 13 (fun v wx => ∃ bg : Nat, v = .pointer (some ⟨bg, 0, none⟩) ∧ B < bg ∧ Hid (wx.heap[bg]? = some (.cells #[.int .i64 t, .int .i64 y] 62 (0, 0)) ∧ Below W0.heap.size W0 wx))
  case first =>
    go_region_held3 (fun W => W.cell? ⟨pb, po, none⟩ = some (.int .i64 i) ∧ W.cell? ⟨pb, po + 1, none⟩ = some (.slice a N c) ∧ W.cell? ⟨pb, po + 2, none⟩ = some vq ∧ W.cell? ⟨B, 0, none⟩ = some (.int .i64 t) ∧ W.cell? ⟨B, 1, none⟩ = some (.int .i64 m))
      ((refine SC.out _ ?_; first | exact B3.out | repeat (first | exact Below.refl _ _ | exact B3.out | refine Below.drew ?_ | refine Below.alloc ?_ (by first | exact Nat.le_refl _ | exact B3.out.size) _ | refine Below.setCell ?_ (by first | exact Nat.le_refl _ | exact B3.out.size) _)))
      ((first | (go_at_call 83; refine (KW.out W0.drew B0.out.drew).mono ?_; rintro r w3 ⟨rfl, hb3⟩; have B3 : Hid (Below W0.heap.size W0 w3) := below_tr (Below.refl _ _).drew hb3; clear hb3) | (go_at_call 83; refine (KW.out (W0.drew.alloc (.cells #[.int .i64 0, .int .i64 0] 62)) (below_tr B0.out.drew (bx _ _))).mono ?_; rintro r w3 ⟨rfl, hb3⟩; have B3 : Hid (Below W0.heap.size W0 w3) := below_tr (below_tr (Below.refl _ _).drew (bx _ _)) hb3; obtain ⟨zb1, zb2, zb3, zb4⟩ := box_back hb3; have zb5 := hid ((hb3.block W0.heap.size (by simp)).trans (heap_alloc_new W0.drew _)); clear hb3)))
    all_goals (go_wp2_with fail; go_meet)
    all_goals first
      | exact ⟨w3.heap.size, rfl, by have := B3.out.size; have := hs0.out; omega, heap_alloc_new w3 _, below_tr B3.out (bx _ _)⟩
      | exact ⟨W0.heap.size, rfl, by have := hs0.out; omega, by
          have e1 := setCell_eq_setRow w3 W0.heap.size 0 #[.int .i64 0, .int .i64 0] 62 (0, 0) (.int .i64 t) zb5.out
          have h1 := setRow_heap w3 W0.heap.size #[.int .i64 0, .int .i64 0] (#[Value.int .i64 0, .int .i64 0].setIfInBounds 0 (.int .i64 t)) 62 (0, 0) zb5.out
          rw [← e1] at h1
          have e2 := setCell_eq_setRow (w3.setCell ⟨W0.heap.size, 0, none⟩ (.int .i64 t)) W0.heap.size 1 _ 62 (0, 0) (.int .i64 y) h1
          rw [e2]
          exact setRow_heap _ W0.heap.size _ _ 62 (0, 0) h1, (B3.out.setCell (p := ⟨W0.heap.size, 0, none⟩) (Nat.le_refl _) _).setCell (p := ⟨W0.heap.size, 1, none⟩) (Nat.le_refl _) _⟩
  case rest =>
    obtain ⟨bg, rfl, hbg, hG1⟩ := hcut
    have BW : Hid (Below w.heap.size w wc) := below_tr B0.out hG1.out.2
    have SD : Hid (∀ W, Below wc.heap.size wc W → W.cell? ⟨pb, po + 1, none⟩ = some (.slice a N c) ∧ W.cell? ⟨B, 0, none⟩ = some (.int .i64 t) ∧ W.cell? ⟨bg, 0, none⟩ = some (.int .i64 t) ∧ W.cell? ⟨bg, 1, none⟩ = some (.int .i64 y)) := fun W hW => by
      obtain ⟨x0, x1, x2, y0, y1⟩ := SC.out W (below_tr hG1.out.2 hW)
      have hg : W.heap[bg]? = _ := (hW.block _ (lt_of_heap hG1.out.1)).trans hG1.out.1
      exact ⟨x1, y0, by rw [cell_of_row W bg 0 _ _ _ hg]; rfl, by rw [cell_of_row W bg 1 _ _ _ hg]; rfl⟩
    obtain ⟨x1, y0, z0, z1⟩ := SD.out wc (Below.refl _ _)
    clear hG1 SC
    obtain ⟨p, hp⟩ : ∃ p, p = Lk.plI H t := ⟨_, rfl⟩
    rw [← hp] at KP
    have HP := hid hp
    clear hp
    go_wp2_with fail
    go_region_held3 (fun W => W.cell? ⟨pb, po + 1, none⟩ = some (.slice a N c) ∧ W.cell? ⟨B, 0, none⟩ = some (.int .i64 t) ∧ W.cell? ⟨bg, 0, none⟩ = some (.int .i64 t) ∧ W.cell? ⟨bg, 1, none⟩ = some (.int .i64 y))
      ((refine SD.out _ ?_; first | exact B5.out | repeat (first | exact Below.refl _ _ | refine Below.drew ?_)))
      ((go_at_call 65; refine (KP.out wc.drew BW.out.drew).mono ?_; rintro r w5 ⟨rfl, hb5⟩; have B5 : Hid (Below wc.heap.size wc w5) := below_tr (Below.refl _ _).drew hb5; clear hb5))
    clear x1 y0 z0 z1
    have BW5 := hid (below_tr BW.out B5.out)
    obtain ⟨x1, y0, z0, z1⟩ := SD.out w5 B5.out
    have S5 : Hid (Spot w5 pb po T A (.int .i64 i) (.slice a N c) vq) := S.out.below BW5.out
    have O5 : Hid (OwnLk w5 base (.slice a N c) H) := O.out.below BW5.out
    obtain ⟨_, _, _, s3, s4⟩ := S5.out.cells
    clear B5 SD S O BW y0
    have HB5 : Hid (base ≤ w5.heap.size) := Nat.le_trans hb BW5.out.size
    cases hh : Lk.has H t with
    | false =>
      have hp : p = -1 := by have := HP.out; unfold Lk.plI at this; rw [hh] at this; exact this
      have HR : Hid (R = H ++ [⟨t, y⟩]) := by have := HG.out; rw [hh] at this; exact this
      subst hp
      clear HG hh HP
      go_wp2_with fail
      have x1a : ∀ o, (w5.alloc o).cell? ⟨pb, po + 1, none⟩ = some (.slice a N c) := fun o => keep1 (bx _ _) x1
      go_region_law ((refine step_app1_lk (by rfl) _ _ (by rfl) base _ H (by rfl) (O5.out.below (by repeat (first | exact Below.refl _ _ | refine Below.drew ?_ | refine Below.alloc ?_ (Nat.le_refl _) _))) w5.heap.size ⟨t, y⟩ (by rfl) (one_at w5.drew t y) (by have := HN.out; omega) (by have h := HB5.out; first | (simp; omega) | omega) ?_; intro g6 c6 w6 ho6 hg6 hat6; have S6 := hid ((S5.out.below (by repeat (first | exact Below.refl _ _ | refine Below.drew ?_ | refine Below.alloc ?_ (Nat.le_refl _) _))).grown hg6 (by rw [HN.out]; exact hne)); have G6 := hid (goes_app (below_tr BW5.out (by repeat (first | exact Below.refl _ _ | refine Below.drew ?_ | refine Below.alloc ?_ (Nat.le_refl _) _))) hg6 hat6); have O6 := hid ho6; obtain ⟨r0, r1, r2, r3, r4⟩ := S6.out.cells; clear ho6 hg6 hat6))
      all_goals
        go_wp2_with fail
        go_end0
        refine ⟨_, rfl, S6.out.put1 _, ?_, ?_⟩
        · rw [HR.out]
          exact O6.out.keep fun g hg => Below.heap_setCell _ ⟨pb, po + 1, none⟩ _ _ (by show g ≠ pb; exact fun e => own_ne O6.out S6.out.blk hT (by rw [hg]; exact congrArg some e))
        · refine ⟨G6.out.os, G6.out.tape, G6.out.output, by simpa [World.setCell] using G6.out.size, fun k hk hn => ?_, fun k hk => ?_⟩
          · exact (Below.heap_setCell _ ⟨pb, po + 1, none⟩ _ _ (fun e => hn (.inl e))).trans (G6.out.block k hk (fun e => hn (.inr (by rw [← HN.out]; exact e))))
          · rcases hk with hk | hk
            · exact .inl (.inl hk)
            · rcases G6.out.grow k (Option.some.inj hk).symm with h | h
              · exact .inl (.inr (by rw [← HN.out]; exact h))
              · exact .inr h
    | true =>
      have hkl := Lk.pl_lt hh
      have hp : p = (Lk.pl H t : Int) := by have := HP.out; unfold Lk.plI at this; rw [hh] at this; exact this
      have HR : Hid (R = H.set (Lk.pl H t) ⟨t, y⟩) := by have := HG.out; rw [hh] at this; exact this
      obtain ⟨q, hq⟩ : ∃ q, q = Lk.pl H t := ⟨_, rfl⟩
      rw [← hq] at hkl hp HR
      subst hp
      obtain ⟨g, c', e, _⟩ := O5.out.some (by omega)
      injection e with e1 e2 e3
      subst e1
      have q0 : (0 : Int) ≤ (q : Int) := by omega
      have q1 : (q : Int) < (N : Int) := by rw [HN.out]; omega
      have q2 : ((q : Int) == -1) = false := by simp
      obtain ⟨z, hz⟩ : ∃ z, H[q]? = some z := ⟨_, List.getElem?_eq_getElem hkl⟩
      obtain ⟨d1, d2, d3, d4⟩ := O5.out.spot hz
      have hgp : g ≠ pb := fun e => own_ne O5.out S5.out.blk hT (by rw [e]; rfl)
      have O6 := hid (O5.out.put q hkl t y)
      clear HG hh HP hq e2 e3 hz hkl
      go_wp2_with fail
      go_region
      all_goals
        go_wp2_with fail
        go_end0
        refine ⟨.slice (some ⟨g, 0, none⟩) N c, rfl, ?_, ?_, ?_⟩
        · rw [set_same S5.out.c1]
          refine ⟨?_, S5.out.c0, S5.out.c1, S5.out.c2⟩
          exact (Below.heap_setCell _ ⟨g, q * 2 + 1, none⟩ _ _ (by show pb ≠ g; exact fun e => hgp e.symm)).trans ((Below.heap_setCell _ ⟨g, q * 2, none⟩ _ _ (by show pb ≠ g; exact fun e => hgp e.symm)).trans S5.out.blk)
        · rw [HR.out]
          exact O6.out
        · refine ⟨BW5.out.os, BW5.out.tape, BW5.out.output, by simpa [World.setCell] using BW5.out.size, fun k hk hn => ?_, fun k hk => .inl (by rw [← HN.out]; exact hk)⟩
          have hkg : k ≠ g := fun e => hn (.inr (by rw [e]; rfl))
          exact (Below.heap_setCell _ ⟨g, q * 2 + 1, none⟩ _ _ (by show k ≠ g; exact hkg)).trans ((Below.heap_setCell _ ⟨g, q * 2, none⟩ _ _ (by show k ≠ g; exact hkg)).trans (BW5.out.block k hk))
end Go.Proofs.Ytjoaedkgjnchoan.PLock
