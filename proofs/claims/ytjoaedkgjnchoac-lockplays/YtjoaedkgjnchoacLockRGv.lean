/- quirref.given, walked: the item with the lock given, its list in a row of its own; nothing that was there has turned. Conditions: the item's locks are right and lie where their slice says; how many there are. -/
import Derived.Test.YtjoaedkgjnchoacLockRHo
import Derived.Test.YtjoaedkgjnchoacLockGiv
namespace Go.Proofs.Ytjoaedkgjnchoac.PLock
open Go Go.RowKit PPool
set_option maxRecDepth 100000

/-- What the reference makes of the first k locks. -/
def gaveTo (H : List Lk.Lo) (l : Lk.Lo) (k : Nat) : List Lk.Lo := (H.take k).map fun h => if h.x = l.x then ⟨h.x, Lk.wish H l⟩ else h
theorem gaveTo_next {H : List Lk.Lo} {l : Lk.Lo} {k : Nat} {x : Lk.Lo} (hx : H[k]? = some x) : gaveTo H l (k + 1) = gaveTo H l k ++ [if x.x = l.x then ⟨x.x, Lk.wish H l⟩ else x] := by
  obtain ⟨h1, h2⟩ := List.getElem?_eq_some_iff.1 hx
  unfold gaveTo
  rw [List.take_succ_eq_append_getElem h1, h2, List.map_append]
  rfl
theorem gaveTo_len (H : List Lk.Lo) (l : Lk.Lo) (k : Nat) : (gaveTo H l k).length ≤ H.length := by
  unfold gaveTo
  rw [List.length_map, List.length_take]
  exact Nat.min_le_right _ _
theorem give_gave {H : List Lk.Lo} (h : Lk.Rights H) (l : Lk.Lo) : Lk.give H l = gaveTo H l H.length ++ (if Lk.has H l.x then [] else [⟨l.x, Lk.wish H l⟩]) := by
  unfold Lk.give gaveTo
  rw [List.take_length]
  cases hh : Lk.has H l.x with
  | false =>
    rw [if_neg (by simp), if_neg (by simp)]
    congr 1
    symm
    rw [List.map_congr_left (g := id) (fun a ha => by rw [if_neg (Lk.has_not.1 hh a ha)]; rfl), List.map_id]
  | true =>
    rw [if_pos rfl, if_pos rfl, List.append_nil]
    apply List.ext_getElem?
    intro j
    obtain ⟨k, h1, h2, _⟩ := Lk.pl_at hh
    have hlt := Lk.pl_lt hh
    rw [List.getElem?_set, List.getElem?_map]
    by_cases e : Lk.pl H l.x = j
    · rw [if_pos e, if_pos hlt, ← e, h1]
      show some _ = some (if k.x = l.x then _ else _)
      rw [if_pos h2, h2]
    · rw [if_neg e]
      cases hj : H[j]? with
      | none => rfl
      | some a =>
        show some a = some (if a.x = l.x then _ else _)
        rw [if_neg]
        intro hx
        have := h.same (List.mem_of_getElem? hj) (List.mem_of_getElem? h1) (hx.trans h2.symm)
        have hp := List.pairwise_iff_getElem.1 h.one
        obtain ⟨g1, g2⟩ := List.getElem?_eq_some_iff.1 hj
        obtain ⟨g3, g4⟩ := List.getElem?_eq_some_iff.1 h1
        rcases Nat.lt_or_gt_of_ne e with hl | hl
        · exact hp _ _ g3 g1 hl (by rw [g4, g2, h2, hx])
        · exact hp _ _ g1 g3 hl (by rw [g4, g2, h2, hx])
theorem md_none0 {H : List Lk.Lo} (h : Lk.Rights H) (t : Int) : (Lk.md H t == 0) = !Lk.has H t := by
  have := Lk.md_pos h t
  cases hh : Lk.has H t with
  | false => rw [Lk.md_not hh]; rfl
  | true =>
    rw [hh] at this
    have : 0 < Lk.md H t := by simpa using this
    simp; omega

theorem one_at2 (W : World) (o : Obj) (t y : Int) : LkAt ((W.alloc o).alloc (.cells #[.int .i64 t, .int .i64 y] 65)) (some ⟨W.heap.size + 1, 0, none⟩) [⟨t, y⟩] := by
  have := one_at (W.alloc o) t y
  rwa [World.size_alloc] at this

/-- The item in the making. -/
structure GvAt (w1 W : World) (i : Int) (vq v : Value) (L : List Lk.Lo) : Prop where
  arr : ArrAt W w1.heap.size #[.int .i64 i, v, vq]
  own : OwnLk W (w1.heap.size + 1) v L
  bel : Below w1.heap.size w1 W
theorem GvAt.below {w1 W W' : World} {i : Int} {vq v : Value} {L : List Lk.Lo} (h : GvAt w1 W i vq v L) (hb : Below W.heap.size W W') : GvAt w1 W' i vq v L := ⟨h.arr.below hb, h.own.below hb, below_tr h.bel hb⟩
theorem GvAt.grown {w1 W W' : World} {i : Int} {vq v v' : Value} {L L' : List Lk.Lo} (h : GvAt w1 W i vq v L) (hg : W.grownBy W' v.ownBlock) (ho : OwnLk W' (w1.heap.size + 1) v' L') : GvAt w1 (W'.setCell ⟨w1.heap.size, 1, none⟩ v') i vq v' L' := by
  have ha : ArrAt W' w1.heap.size #[.int .i64 i, v, vq] := h.arr.keep (hg.block _ h.arr.lt (fun e => by have := (h.own.lt _ e.symm).1; omega))
  refine ⟨ha.put 1 v', ho.keep fun g hv => Below.heap_setCell _ _ _ _ (fun e => by have := (ho.lt g hv).1; have e' : g = w1.heap.size := e; omega), ?_⟩
  exact (h.bel.grown hg h.bel.size (fun g hv => by have := (h.own.lt g hv).1; omega)).setCell (p := ⟨w1.heap.size, 1, none⟩) (Nat.le_refl _) _
theorem GvAt.arr5 {w1 W W' : World} {i : Int} {vq v : Value} {L : List Lk.Lo} (h : GvAt w1 W i vq v L) (hg : W.grownBy W' v.ownBlock) : W'.cell? ⟨w1.heap.size, 1, none⟩ = some v ∧ W'.frozen? ⟨w1.heap.size, 1, none⟩ = false := by
  have ha : ArrAt W' w1.heap.size #[.int .i64 i, v, vq] := h.arr.keep (hg.block _ h.arr.lt (fun e => by have := (h.own.lt _ e.symm).1; omega))
  exact ⟨ha.cell rfl, ha.fz 1⟩
theorem GvAt.cells {w1 W : World} {i : Int} {vq v : Value} {L : List Lk.Lo} (h : GvAt w1 W i vq v L) : W.cell? ⟨w1.heap.size, 0, none⟩ = some (.int .i64 i) ∧ W.cell? ⟨w1.heap.size, 1, none⟩ = some v ∧ W.cell? ⟨w1.heap.size, 2, none⟩ = some vq := ⟨h.arr.cell rfl, h.arr.cell rfl, h.arr.cell rfl⟩

theorem GvAt.fin {w w1 W : World} {i : Int} {vq v : Value} {L : List Lk.Lo} {B : Nat} (h : GvAt w1 W i vq v L) (hB : B = w.heap.size) (hBB : B + 1 + 1 < w1.heap.size) (hb : Below w.heap.size w w1) (x y z : Value) :
    OwnLk (((W.setCell ⟨B + 1 + 1, 0, none⟩ x).setCell ⟨B + 1 + 1, 1, none⟩ y).setCell ⟨B + 1 + 1, 2, none⟩ z) w.heap.size v L ∧ Below w.heap.size w (((W.setCell ⟨B + 1 + 1, 0, none⟩ x).setCell ⟨B + 1 + 1, 1, none⟩ y).setCell ⟨B + 1 + 1, 2, none⟩ z) := by
  constructor
  · refine (h.own.keep fun g hg => ?_).lower (by have := hb.size; omega)
    have := (h.own.lt g hg).1
    rw [Below.heap_setCell _ ⟨B + 1 + 1, 2, none⟩ _ _ (by show g ≠ B + 1 + 1; omega), Below.heap_setCell _ ⟨B + 1 + 1, 1, none⟩ _ _ (by show g ≠ B + 1 + 1; omega), Below.heap_setCell _ ⟨B + 1 + 1, 0, none⟩ _ _ (by show g ≠ B + 1 + 1; omega)]
  · exact (((below_tr hb h.bel).setCell (p := ⟨B + 1 + 1, 0, none⟩) (by show _ ≤ B + 1 + 1; omega) _).setCell (p := ⟨B + 1 + 1, 1, none⟩) (by show _ ≤ B + 1 + 1; omega) _).setCell (p := ⟨B + 1 + 1, 2, none⟩) (by show _ ≤ B + 1 + 1; omega) _

set_option maxHeartbeats 4000000 in
theorem given_any (w : World) (i : Int) (vh : Value) (aq : Option Addr) (nq cq : Nat) (H : List Lk.Lo) (l : Lk.Lo) (hH : LsAt w vh H) (hR : Lk.Rights H) (hm : Lk.mode l.m = true) (hl : H.length ≤ 2000) :
    Calls Try.prog 41 #[.agg #[.int .i64 i, vh, .slice aq nq cq], .agg #[.int .i64 l.x, .int .i64 l.m]] w fun e w' => ∃ vh', e = .returned (.agg #[.int .i64 i, vh', .slice aq nq cq]) ∧ OwnLk w' w.heap.size vh' (Lk.give H l) ∧ Below w.heap.size w w' := by
  obtain ⟨ah, ch, rfl, ph, lh1, lh2, _⟩ := hH
  have PH := hid ph
  have KW := hid fun W hW => rwish_any W (.int .i64 i) ah ch H (.slice aq nq cq) l (ph.below hW) (by omega) (fun x hx => hR.mode hx) hm
  have KH := hid fun W hW => rholds_any W ah ch H l.x (ph.below hW) (by omega)
  have HG := hid (give_gave hR l)
  have HN := hid fun k x (hx : H[k]? = some x) => gaveTo_next (l := l) hx
  have HZ : Hid (gaveTo H l 0 = []) := rfl
  have HL := hid (gaveTo_len H l)
  have H0 := md_none0 hR l.x
  obtain ⟨G, hG⟩ : ∃ G, G = gaveTo H l := ⟨_, rfl⟩
  obtain ⟨R, hRe⟩ : ∃ R, R = Lk.give H l := ⟨_, rfl⟩
  rw [← hG, ← hRe] at HG
  rw [← hG] at HN HZ HL
  rw [← hRe]
  obtain ⟨m, hme⟩ : ∃ m, m = Lk.wish H l := ⟨_, rfl⟩
  rw [← hme] at HG KW HN
  generalize Lk.md H l.x = md at *
  generalize Lk.has H l.x = hs at *
  obtain ⟨t, ml⟩ := l
  simp only at KW KH HG HN ⊢
  clear ph hR hm hG hRe hme lh1 lh2
  have ln : (H.length : Int) ≤ 2000 := by omega
  obtain ⟨n, hn⟩ : ∃ n, n = H.length := ⟨_, rfl⟩
  rw [← hn] at KW KH ln HG ⊢
  have HLN := hid hn
  clear hn
  obtain ⟨B, hB⟩ : ∃ B, B = w.heap.size := ⟨_, rfl⟩
  obtain ⟨W0, hW0⟩ : ∃ W0, W0 = ((w.alloc (.cells #[.int .i64 i, .slice ah n ch, .slice aq nq cq] 57)).alloc (.cells #[.int .i64 t, .int .i64 ml] 65)).alloc (.cells #[.int .i64 0, .slice none 0 0, .slice none 0 0] 57) := ⟨_, rfl⟩
  have B0 : Hid (Below w.heap.size w W0) := by show Below _ _ _; rw [hW0]; exact below_tr (bx _ _) (below_tr (bx _ _) (bx _ _))
  have C0 : Hid (∀ W, Below W0.heap.size W0 W → (W.cell? ⟨B, 0, none⟩ = some (.int .i64 i) ∧ W.cell? ⟨B, 1, none⟩ = some (.slice ah n ch) ∧ W.cell? ⟨B, 2, none⟩ = some (.slice aq nq cq) ∧ W.cell? ⟨B + 1, 0, none⟩ = some (.int .i64 t) ∧ W.cell? ⟨B + 1, 1, none⟩ = some (.int .i64 ml)) ∧ ArrAt W (B + 1 + 1) #[.int .i64 0, .slice none 0 0, .slice none 0 0]) := fun W hW => by
    rw [hW0] at hW
    refine ⟨?_, ?_⟩
    · rw [hB]; exact bx2 (below_tr (bx _ _) hW)
    · have := (ArrAt.new ((w.alloc (.cells #[.int .i64 i, .slice ah n ch, .slice aq nq cq] 57)).alloc (.cells #[.int .i64 t, .int .i64 ml] 65)) #[.int .i64 0, .slice none 0 0, .slice none 0 0] 57).below hW
      simpa [hB] using this
  have HW0 := hid hW0
  have HB := hid hB
  clear hW0
  go_enter Try.func41, Try.ntmps41
  go_upto_region 1 with fail
  rw [← HW0.out, ← hB]
  clear HW0 hB
  obtain ⟨⟨c0, c1, c2, c3, c4⟩, _⟩ := C0.out _ (Below.refl _ _)
  go_wp2_with fail
  refine (KW.out _ B0.out).mono ?_
  rintro r w1 ⟨rfl, hb1⟩
  obtain ⟨⟨c0, c1, c2, c3, c4⟩, _⟩ := C0.out _ hb1
  have B1 := hid hb1
  clear hb1 KW
  obtain ⟨W2, hW2⟩ : ∃ W2, W2 = w1.alloc (.cells #[.int .i64 i, .slice none 0 0, .slice aq nq cq] 57) := ⟨_, rfl⟩
  have GV : Hid (GvAt w1 W2 i (.slice aq nq cq) (.slice none 0 0) []) := by
    show GvAt _ _ _ _ _ _
    rw [hW2]
    exact ⟨ArrAt.new w1 _ 57, OwnLk.nil _ _, bx _ _⟩
  have c0' := keep1 (bx w1 (.cells #[.int .i64 i, .slice none 0 0, .slice aq nq cq] 57)) c0
  have c1' := keep1 (bx w1 (.cells #[.int .i64 i, .slice none 0 0, .slice aq nq cq] 57)) c1
  have HW2 := hid hW2
  have SC : Hid (∀ W, Below w1.heap.size w1 W → (W.cell? ⟨B, 0, none⟩ = some (.int .i64 i) ∧ W.cell? ⟨B, 1, none⟩ = some (.slice ah n ch) ∧ W.cell? ⟨B, 2, none⟩ = some (.slice aq nq cq) ∧ W.cell? ⟨B + 1, 0, none⟩ = some (.int .i64 t) ∧ W.cell? ⟨B + 1, 1, none⟩ = some (.int .i64 ml)) ∧ ArrAt W (B + 1 + 1) #[.int .i64 0, .slice none 0 0, .slice none 0 0]) := fun W hW => C0.out W (below_tr B1.out hW)
  have B1 := hid (below_tr B0.out B1.out)
  have HBB : Hid (B + 1 + 1 < w1.heap.size) := by have := (SC.out w1 (Below.refl _ _)).2.lt; exact this
  clear hW2 C0 B0
  go_wp2_with fail
  rw [← HW2.out]
  clear c0 c1 c2 c3 c4 c0' c1' HW2
  go_loopw [20] (fun ix wr => ∃ (k : Nat) (v : Value), k ≤ n ∧ ix = .int .i64 (k : Int) ∧ Hid (GvAt w1 wr i (.slice aq nq cq) v (G k))) (fun ix _ => n - (intOf ix).toNat)
  case atStart => exact ⟨0, _, Nat.zero_le _, rfl, by show GvAt _ _ _ _ _ _; rw [HZ.out]; exact GV.out⟩
  case round =>
    clear GV
    obtain ⟨k, v, hk, rfl, hV⟩ := hrel
    obtain ⟨⟨c0, c1, c2, c3, c4⟩, _⟩ := SC.out _ hV.out.bel
    obtain ⟨g0, g1, g2⟩ := hV.out.cells
    have hv1 : ∃ a m c, v = .slice a m c := by obtain ⟨a, c, e, _⟩ := hV.out.own.at_; exact ⟨a, _, c, e⟩
    obtain ⟨va, vm, vc, rfl⟩ := hv1
    by_cases hlt : k < n
    · obtain ⟨x, hx⟩ : ∃ x, H[k]? = some x := ⟨_, List.getElem?_eq_getElem (by have := HLN.out; omega)⟩
      obtain ⟨b, o, rfl, d1, d2⟩ := (PH.out.below (below_tr B1.out hV.out.bel)) k x hx
      have k0 : (0 : Int) ≤ (k : Int) := by omega
      have k1 : (k : Int) < (n : Int) := by omega
      have HX := hid (HN.out k x hx)
      clear hx
      obtain ⟨xx, xm⟩ := x
      simp only at d1 d2 HX
      have SK : ∀ o, (wr.alloc o).cell? ⟨w1.heap.size, 1, none⟩ = some (.slice va vm vc) := fun o => keep1 (bx _ _) g1
      have S3 : ∀ o, (wr.alloc o).cell? ⟨B + 1, 0, none⟩ = some (.int .i64 t) := fun o => keep1 (bx _ _) c3
      by_cases e : xx = t
      · have HY : Hid (G (k + 1) = G k ++ [⟨xx, m⟩]) := by show _ = _; rw [HX.out, if_pos e]
        have e' : (xx == t) = true := by simpa using e
        clear HX e
        go_wp2_with (at_builtin; refine wpList_append_lk rfl _ _ rfl (w1.heap.size + 1) _ (G k) rfl (hV.out.below (below_tr (bx _ _) (bx _ _))).own (some ⟨wr.heap.size + 1, 0, none⟩) 1 [⟨xx, m⟩] rfl (one_at2 _ _ _ _) (fun e => by cases e) ?c1 ?c2 ?_)
        case c1 => have := HL.out k; have := HLN.out; show (_ + 1) * 16 ≤ _; omega
        case c2 => have := hV.out.bel.size; simp only [World.size_alloc]; have := hV.out.arr.lt; omega
        intro v5 w5 ho5 hg5
        have q5 : ∃ a m c, v5 = .slice a m c := by obtain ⟨a, c, e, _⟩ := ho5.at_; exact ⟨a, _, c, e⟩
        obtain ⟨a5, m5, c5, rfl⟩ := q5
        have V5 := hid ((hV.out.below (below_tr (bx wr (.cells #[.int .i64 xx, .int .i64 m] 65)) (bx _ (.cells #[.int .i64 xx, .int .i64 m] 65)))).grown hg5 ho5)
        obtain ⟨f4, f5⟩ := (hV.out.below (below_tr (bx wr (.cells #[.int .i64 xx, .int .i64 m] 65)) (bx _ (.cells #[.int .i64 xx, .int .i64 m] 65)))).arr5 hg5
        have V5 : Hid (GvAt w1 (w5.setCell ⟨w1.heap.size, 1, none⟩ (.slice a5 m5 c5)) i (.slice aq nq cq) (.slice a5 m5 c5) (G (k + 1))) := by show GvAt _ _ _ _ _ _; rw [HY.out]; exact V5.out
        clear ho5 hg5 hV SK S3 c0 c1 c2 c3 c4 g0 g1 g2 d1 d2
        go_wp2_with fail
        go_roundw
        case rel => exact ⟨k + 1, _, by omega, by go_num, V5⟩
        case measure => simp [intOf]; omega
      · have HY : Hid (G (k + 1) = G k ++ [⟨xx, xm⟩]) := by show _ = _; rw [HX.out, if_neg e]
        have e' : (xx == t) = false := by simpa using e
        clear HX e
        go_wp2_with (at_builtin; refine wpList_append_lk rfl _ _ rfl (w1.heap.size + 1) _ (G k) rfl (hV.out.below (below_tr (bx _ _) (bx _ _))).own (some ⟨wr.heap.size + 1, 0, none⟩) 1 [⟨xx, xm⟩] rfl (one_at2 _ _ _ _) (fun e => by cases e) ?c1 ?c2 ?_)
        case c1 => have := HL.out k; have := HLN.out; show (_ + 1) * 16 ≤ _; omega
        case c2 => have := hV.out.bel.size; simp only [World.size_alloc]; have := hV.out.arr.lt; omega
        intro v5 w5 ho5 hg5
        have q5 : ∃ a m c, v5 = .slice a m c := by obtain ⟨a, c, e, _⟩ := ho5.at_; exact ⟨a, _, c, e⟩
        obtain ⟨a5, m5, c5, rfl⟩ := q5
        have V5 := hid ((hV.out.below (below_tr (bx wr (.cells #[.int .i64 xx, .int .i64 xm] 65)) (bx _ (.cells #[.int .i64 xx, .int .i64 xm] 65)))).grown hg5 ho5)
        obtain ⟨f4, f5⟩ := (hV.out.below (below_tr (bx wr (.cells #[.int .i64 xx, .int .i64 xm] 65)) (bx _ (.cells #[.int .i64 xx, .int .i64 xm] 65)))).arr5 hg5
        have V5 : Hid (GvAt w1 (w5.setCell ⟨w1.heap.size, 1, none⟩ (.slice a5 m5 c5)) i (.slice aq nq cq) (.slice a5 m5 c5) (G (k + 1))) := by show GvAt _ _ _ _ _ _; rw [HY.out]; exact V5.out
        clear ho5 hg5 hV SK S3 c0 c1 c2 c3 c4 g0 g1 g2 d1 d2
        go_wp2_with fail
        go_roundw
        case rel => exact ⟨k + 1, _, by omega, by go_num, V5⟩
        case measure => simp [intOf]; omega
    · obtain rfl : k = n := by omega
      have j3 : decide ((k : Int) < (k : Int)) = false := by simp
      have B3 := hid (below_tr B1.out hV.out.bel)
      cases hs with
      | true =>
        have H0 : (md == 0) = false := H0
        have HR : Hid (R = G k) := by have := HG.out; rw [if_pos rfl, List.append_nil] at this; exact this
        clear HN HG
        go_wp2_with fail
        refine (KH.out _ B3.out).mono ?_
        rintro r w6 ⟨rfl, hb6⟩
        have V6 := hid (hV.out.below hb6)
        obtain ⟨g0, g1, g2⟩ := V6.out.cells
        obtain ⟨_, ha⟩ := SC.out _ V6.out.bel
        obtain ⟨y0, y1, y2, x0, x1, x2⟩ := ha.all3
        have F := V6.out.fin HB.out HBB.out B1.out (.int .i64 i) (.slice va vm vc) (.slice aq nq cq)
        clear hb6 hV c0 c1 c2 c3 c4
        go_wp2_with fail
        exact bodyPost_ret ((((ha.put 0 _).put 1 _).put 2 _).result1 rfl rfl Try.underlying57 rfl rfl) rfl ⟨_, rfl, by rw [HR.out]; exact F.1, F.2⟩
      | false =>
        have H0 : (md == 0) = true := H0
        have HR : Hid (R = G k ++ [⟨t, m⟩]) := by have := HG.out; rw [if_neg (by simp)] at this; exact this
        clear HN HG
        go_wp2_with fail
        refine (KH.out _ B3.out).mono ?_
        rintro r w6 ⟨rfl, hb6⟩
        have V6 := hid (hV.out.below hb6)
        obtain ⟨g0, g1, g2⟩ := V6.out.cells
        obtain ⟨⟨c0, c1, c2, c3, c4⟩, ha⟩ := SC.out _ V6.out.bel
        clear hb6 hV
        go_wp2_with (at_builtin; refine wpList_append_lk rfl _ _ rfl (w1.heap.size + 1) _ (G k) rfl (V6.out.below (bx _ _)).own (some ⟨w6.heap.size, 0, none⟩) 1 [⟨t, m⟩] rfl (one_at _ _ _) (fun e => by cases e) ?c1 ?c2 ?_)
        case c1 => have := HL.out k; have := HLN.out; show (_ + 1) * 16 ≤ _; omega
        case c2 => have := V6.out.bel.size; simp only [World.size_alloc]; have := V6.out.arr.lt; omega
        intro v7 w7 ho7 hg7
        have V7 := hid ((V6.out.below (bx _ (.cells #[.int .i64 t, .int .i64 m] 65))).grown hg7 ho7)
        obtain ⟨f6, f7⟩ := (V6.out.below (bx _ (.cells #[.int .i64 t, .int .i64 m] 65))).arr5 hg7
        have q7 : ∃ a m c, v7 = .slice a m c := by obtain ⟨a, c, e, _⟩ := ho7.at_; exact ⟨a, _, c, e⟩
        obtain ⟨a7, m7, c7, rfl⟩ := q7
        clear ho7 hg7 V6 c0 c1 c2 c3 c4 g0 g1 g2
        obtain ⟨g0, g1, g2⟩ := V7.out.cells
        obtain ⟨_, ha⟩ := SC.out _ V7.out.bel
        obtain ⟨y0, y1, y2, x0, x1, x2⟩ := ha.all3
        have F := V7.out.fin HB.out HBB.out B1.out (.int .i64 i) (.slice a7 m7 c7) (.slice aq nq cq)
        go_wp2_with fail
        exact bodyPost_ret ((((ha.put 0 _).put 1 _).put 2 _).result1 rfl rfl Try.underlying57 rfl rfl) rfl ⟨_, rfl, by rw [HR.out]; exact F.1, F.2⟩
end Go.Proofs.Ytjoaedkgjnchoac.PLock
