/- tree's takeLast, walked: the greatest key goes, and is told; the node may have one key too few, no other has. -/
import Derived.Test.YtlefcjgemojhpabTreePut
namespace Go.Proofs.Ytlefcjgemojhpab.PTree
open Go Go.RowKit PPool
set_option maxRecDepth 100000
def TakeTo (h : Nat) (w : World) (o : Lab) (M : Sto) (p : Nat) (n : Nd) (A : List Nat) (x : En) (w' : World) : Prop := ∃ o' M' n' A', Mem w' o' M' ∧ Gos o w w' o' ∧ Stp h w.heap.size M M' p n' A A' ∧
  Shape h n' ∧ lst h n = lst h n' ++ [x] ∧ n'.es.length ≤ n.es.length ∧ n.es.length ≤ n'.es.length + 1
theorem TakeTo.pre {h : Nat} {w w1 w' : World} {o : Lab} {M : Sto} {p : Nat} {n : Nd} {A : List Nat} {x : En} (hb : Below w.heap.size w w1) (h1 : TakeTo h w1 o M p n A x w') : TakeTo h w o M p n A x w' := by
  obtain ⟨o', M', n', A', k1, k2, k3, k4⟩ := h1
  exact ⟨o', M', n', A', k1, goes_pre hb k2, k3.lower hb.size, k4⟩
theorem tl_result {W : World} {b : Nat} {u v : Value} (h : W.cell? ⟨b, 0, none⟩ = some u ∧ W.cell? ⟨b, 1, none⟩ = some v) (tmps : Array Value) (h4 : tmps.getD 2 undef = .pointer (some ⟨b, 0, none⟩)) :
    (results Try.f59 tmps).run Try.prog W = .ok (.agg #[u, v]) W := by
  have h5 : tmps[2]?.getD undef = .pointer (some ⟨b, 0, none⟩) := by simpa using h4
  simp [results, Try.results59, go_sem, h5, h.1, h.2]
theorem two_set {W : World} {b : Nat} {u v x y : Value} (h0 : W.cell? ⟨b, 0, none⟩ = some u) (h1 : W.cell? ⟨b, 1, none⟩ = some v) :
    ((W.setCell ⟨b, 0, none⟩ x).setCell ⟨b, 1, none⟩ y).cell? ⟨b, 0, none⟩ = some x ∧ ((W.setCell ⟨b, 0, none⟩ x).setCell ⟨b, 1, none⟩ y).cell? ⟨b, 1, none⟩ = some y := by
  have e1 : (W.setCell ⟨b, 0, none⟩ x).cell? ⟨b, 1, none⟩ = some v := by rw [World.cell?_setCell_other _ _ _ _ (by simp)]; exact h1
  exact ⟨by rw [World.cell?_setCell_other _ _ _ _ (by simp)]; exact World.cell?_setCell_same _ _ _ h0, World.cell?_setCell_same _ _ _ e1⟩
/-- A store into a block that no node owns. -/
theorem Now.off2 {w0 w : World} {o0 o : Lab} {M : Sto} (h : Now w0 o0 w o M) {b : Nat} (hb : o b = none) (hb0 : w0.heap.size ≤ b) (x y : Value) : Now w0 o0 ((w.setCell ⟨b, 0, none⟩ x).setCell ⟨b, 1, none⟩ y) o M := by
  refine ⟨h.mem.keep (fun k hk => ?_) (by simp), ⟨(h.go.toGoes.setCell (q := ⟨b, 0, none⟩) (.inr hb0) x).setCell (q := ⟨b, 1, none⟩) (.inr hb0) y, fun p off hp hl ho => ?_, h.go.own, fun p off hp hl => by rw [World.frozen?_setCell, World.frozen?_setCell]; exact h.go.frz p off hp hl⟩⟩
  · have hk : k ≠ b := fun e => hk (by rw [e]; exact hb)
    rw [Below.heap_setCell _ _ _ _ hk, Below.heap_setCell _ _ _ _ hk]
  · rw [World.cell?_setCell_other _ _ _ _ (by intro e; injection e with e _ _; omega), World.cell?_setCell_other _ _ _ _ (by intro e; injection e with e _ _; omega)]
    exact h.go.rest p off hp hl ho
/-- A block that was laid besides stays no node's. -/
theorem goes_none {o o' : Lab} {w w' : World} (g : Gos o w w' o') {b : Nat} (h : o b = none) (hb : b < w.heap.size) : o' b = none := by
  cases e : o' b with
  | none => rfl
  | some x =>
    rcases g.grow b (by show o' b ≠ none; rw [e]; simp) with h1 | h1
    · exact absurd h h1
    · omega
set_option maxHeartbeats 4000000 in
theorem take_leaf (w : World) (o : Lab) (M : Sto) (p : Nat) (nd : Nd) (A : List Nat) (hM : Mem w o M) (t : Tr 0 M p nd A) (hn : A.Nodup) (hl : nd.es.length ≤ 5) (h1 : 1 ≤ nd.es.length) :
    Calls Try.prog 59 #[.pointer (some ⟨p, 0, none⟩)] w fun r w' => ∃ x, r = .returned (.agg #[.int .i64 x.k, .string x.t]) ∧ TakeTo 0 w o M p nd A x w' := by
  obtain ⟨cs, hp⟩ := t.head
  have hz := kids_zero t hp
  subst hz
  obtain ⟨es, bs⟩ := nd
  simp only [Nd.es_mk] at hp hl h1
  obtain ⟨L, x, rfl, e1⟩ := last_of (l := es) (by omega)
  obtain ⟨K, hK⟩ : ∃ K, K = L.length := ⟨_, rfl⟩
  have HT := hid t
  have HN := hid hn
  have HP := hid hp
  have HK := hid hK
  have hK4 : K ≤ 5 := by omega
  have hlb : Hid (o w.heap.size = none) := by
    show _ = _
    cases e : o w.heap.size with
    | none => rfl
    | some z => have := hM.lt w.heap.size (by rw [e]; simp); omega
  have N1 : Hid (Now w o (w.alloc (.cells #[.int .i64 0, .string ⟨#[]⟩] 87)) o M) := (⟨hM, Gos.refl _ _⟩ : Now w o w o M).below (bx _ _)
  have b1 := TE.box2 (w := w) (x := .int .i64 0) (y := .string ⟨#[]⟩) (T := 87) (Below.refl _ _)
  have fb0 := frz_new w #[.int .i64 0, .string ⟨#[]⟩] 87 0
  have fb1 := frz_new w #[.int .i64 0, .string ⟨#[]⟩] 87 1
  have hws : (w.alloc (.cells #[.int .i64 0, .string ⟨#[]⟩] 87)).heap.size = w.heap.size + 1 := by simp
  obtain ⟨ae, ce, ab, cb, op⟩ := N1.out.mem.open_ hp
  obtain ⟨ge, ce', e, -⟩ := op.e.some (by simp)
  injection e with e2 _ e3
  subst e2; subst e3
  have KL := hid (last_any _ p _ _ ce ab cb op)
  obtain ⟨_, _, e, d1, d2⟩ := op.ent (j := K) (x := x) (by simp [hK])
  cases e
  have q1 := op.at_.c0
  have f1 := op.at_.f0
  have plt := op.at_.lt
  have ap := N1.out.mem.apart hp op
  have OE := hid op.e
  simp only [List.length_append, List.length_cons, List.length_nil, Nat.zero_add, ← hK] at q1 OE KL
  have m1 : Hid (¬ ownB (.slice (some ⟨ge, 0, none⟩) (K + 1) ce) p) := not_own ap.e ap.self (by simp)
  have m2 : Hid (¬ ownB (.slice (some ⟨ge, 0, none⟩) (K + 1) ce) w.heap.size) := fun e => by
    have e : ge = w.heap.size := by simpa [ownB, Value.ownBlock] using e
    have := ap.e _ _ _ rfl
    rw [e, hlb.out] at this
    cases this
  have k0 : (0 : Int) ≤ (K : Int) := by omega
  have k1 : (K : Int) < (K : Int) + 1 := by omega
  have k2 : (K : Int) ≤ 6 := by omega
  clear hM t hn hp hl h1 e1 op ap hK
  obtain ⟨xk, xt⟩ := x
  simp only [Nat.zero_add] at d1 d2
  go_enter Try.func59, Try.ntmps59
  go_upto_region 1 with fail
  generalize w.alloc (.cells #[.int .i64 0, .string ⟨#[]⟩] 87) = w1 at *
  generalize hvb : w.heap.size = vb at *
  have HV := hid hvb
  clear hvb
  obtain ⟨b1, b2⟩ := b1
  go_wp2_with fail
  refine KL.out.mono ?_
  rintro r w2 ⟨rfl, rfl⟩
  clear KL
  go_upto_region 4 with fail
  have x0 := TE.box2 (w := w2) (x := .int .i64 xk) (y := .string xt) (T := 87) (Below.refl _ _)
  have hb3 : Below w2.heap.size w2 (w2.alloc (.cells #[.int .i64 xk, .string xt] 87)) := bx _ _
  have heb : Hid (o w2.heap.size = none) := by
    show _ = _
    cases e : o w2.heap.size with
    | none => rfl
    | some z => have := N1.out.mem.lt w2.heap.size (by rw [e]; simp); omega
  have m3 : Hid (¬ ownB (.slice (some ⟨ge, 0, none⟩) (K + 1) ce) w2.heap.size) := fun e => by
    have e : ge = w2.heap.size := by simpa [ownB, Value.ownBlock] using e
    have := (OE.out.lt ge rfl).2
    omega
  have hes : (w2.alloc (.cells #[.int .i64 xk, .string xt] 87)).heap.size = w2.heap.size + 1 := by simp
  generalize w2.alloc (.cells #[.int .i64 xk, .string xt] 87) = w3 at *
  have N3 := hid (N1.out.below hb3)
  have q3 := TE.keep1 hb3 q1
  have f3 := (hb3.frozen (p := ⟨p, 0, none⟩) plt).trans f1
  have b3 := TE.keep1 hb3 b1
  have b4 := TE.keep1 hb3 b2
  have fb3 := (hb3.frozen (p := ⟨vb, 0, none⟩) (by show vb < _; omega)).trans fb0
  have fb4 := (hb3.frozen (p := ⟨vb, 1, none⟩) (by show vb < _; omega)).trans fb1
  have O3 := hid (OE.out.below hb3)
  have Q3 := hid q3
  have plt3 : p < w3.heap.size := by omega
  have HVE : Hid (vb < w3.heap.size) := by show _ < _; omega
  generalize w2.heap.size = eb at *
  subst hws
  obtain ⟨x1, x2⟩ := x0
  clear hb3 N1 q1 f1 b1 b2 fb0 fb1 OE d1 d2 plt hes
  go_wp2_with fail
  refine (delE (X := L ++ [(⟨xk, xt⟩ : En)]) K (K + 1) rfl (by omega) (by simp [HK.out]) O3.out (by omega) (by omega) (by omega)).mono ?_
  rintro r5 w5 ⟨v5, rfl, ho5, g5⟩
  have z1 := goes_cell g5 Q3.out m1.out
  have z2 := goes_frz g5 f3 plt3 m1.out
  have y1 := goes_cell g5 x1 m3.out
  have y2 := goes_cell g5 x2 m3.out
  have y3 := goes_cell g5 b3 m2.out
  have y4 := goes_cell g5 b4 m2.out
  have y5 := goes_frz g5 fb3 HVE.out m2.out
  have y6 := goes_frz g5 fb4 HVE.out m2.out
  have eL : (L ++ [(⟨xk, xt⟩ : En)]).take K ++ (L ++ [(⟨xk, xt⟩ : En)]).drop (K + 1) = L := by
    rw [HK.out, List.take_left, List.drop_of_length_le (by simp), List.append_nil]
  rw [eL] at ho5
  clear eL
  obtain ⟨a5, c5, rfl, -⟩ := ho5.at_
  obtain ⟨o5, h5, h6⟩ := N3.out.mem.setE HP.out Q3.out g5 ho5 rfl
  have N5 : Hid (Now w o _ o5 _) := ⟨h5, N3.out.go.trans h6⟩
  have ho5v : Hid (o5 vb = none) := goes_none h6 hlb.out HVE.out
  have npv : Hid (p ≠ vb) := fun e => by
    obtain ⟨_, _, _, h2, _⟩ := N3.out.mem.at_ p _ HP.out
    rw [e, hlb.out] at h2
    cases h2
  have npe : Hid (p ≠ vb + 1) := fun e => by
    obtain ⟨_, _, _, h2, _⟩ := N3.out.mem.at_ p _ HP.out
    rw [e, heb.out] at h2
    cases h2
  have W0 := World.cell?_setCell_other w5 ⟨p, 0, none⟩ ⟨vb + 1, 0, none⟩ (.slice a5 L.length c5) (by intro e; injection e with e; exact npe.out e)
  have W1 := World.cell?_setCell_other w5 ⟨p, 0, none⟩ ⟨vb + 1, 1, none⟩ (.slice a5 L.length c5) (by intro e; injection e with e; exact npe.out e)
  have W2 := World.cell?_setCell_other w5 ⟨p, 0, none⟩ ⟨vb, 0, none⟩ (.slice a5 L.length c5) (by intro e; injection e with e; exact npv.out e)
  have W3 := World.cell?_setCell_other w5 ⟨p, 0, none⟩ ⟨vb, 1, none⟩ (.slice a5 L.length c5) (by intro e; injection e with e; exact npv.out e)
  have F0 : (w5.setCell ⟨p, 0, none⟩ (.slice a5 L.length c5)).frozen? ⟨vb, 0, none⟩ = false := by rw [World.frozen?_setCell]; exact y5
  have F1 : (w5.setCell ⟨p, 0, none⟩ (.slice a5 L.length c5)).frozen? ⟨vb, 1, none⟩ = false := by rw [World.frozen?_setCell]; exact y6
  rw [y1] at W0
  rw [y2] at W1
  rw [y3] at W2
  rw [y4] at W3
  clear ho5 g5 h5 h6 y1 y2 y3 y4 y5 y6 q3 f3 b3 b4 fb3 fb4 x1 x2
  go_upto_region 5 with fail
  generalize w5.setCell ⟨p, 0, none⟩ (.slice a5 L.length c5) = w6 at *
  clear z1 z2
  go_wp2_with fail
  refine bodyPost_ret (tl_result (two_set W2 W3) _ rfl) rfl ?_
  refine ⟨⟨xk, xt⟩, rfl, ?_⟩
  have N7 := N5.out.off2 (b := vb) ho5v.out (by rw [HV.out]; exact Nat.le_refl _) (.int .i64 xk) (.string xt)
  refine ⟨o5, _, ⟨L, bs⟩, A, N7.mem, N7.go, ⟨?_, HN.out, fun q hq => .inl hq, fun q hq _ => Sto.put_ne _ _ (fun e => hq (by rw [e]; exact HT.out.mem))⟩, HT.out.2.1, rfl, by simp, by simp⟩
  exact set_tr HT.out HN.out HP.out (Sto.put_at _ _ _) fun q hq => Sto.put_ne _ _ hq
theorem lab_none {w : World} {o : Lab} {M : Sto} (hM : Mem w o M) {b : Nat} (hb : w.heap.size ≤ b) : o b = none := by
  cases e : o b with
  | none => rfl
  | some z => have := hM.lt b (by rw [e]; simp); omega
theorem goes_cell' {o : Lab} {w w' : World} {a : Nat → Prop} (g : Goes (dom o) w w' a) {b i : Nat} {v : Value} (h : o b = none) (hc : w.cell? ⟨b, i, none⟩ = some v) : w'.cell? ⟨b, i, none⟩ = some v := goes_cell g hc (fun e => e h)
theorem goes_frz' {o : Lab} {w w' : World} {a : Nat → Prop} (g : Goes (dom o) w w' a) {b i : Nat} (h : o b = none) (hb : b < w.heap.size) (hc : w.frozen? ⟨b, i, none⟩ = false) : w'.frozen? ⟨b, i, none⟩ = false := goes_frz g hc hb (fun e => e h)
set_option maxHeartbeats 4000000 in
theorem take_any : ∀ (h : Nat) (w : World) (o : Lab) (M : Sto) (p : Nat) (nd : Nd) (A : List Nat), Mem w o M → Tr h M p nd A → A.Nodup → Shape h nd → 1 ≤ nd.es.length → nd.es.length ≤ 4 →
    Calls Try.prog 59 #[.pointer (some ⟨p, 0, none⟩)] w fun r w' => ∃ x, r = .returned (.agg #[.int .i64 x.k, .string x.t]) ∧ TakeTo h w o M p nd A x w' := by
  intro h
  induction h with
  | zero => exact fun w o M p nd A hM t hn _ h1 hl => take_leaf w o M p nd A hM t hn (by omega) h1
  | succ h ih =>
    intro w o M p nd A hM t hn hs h1 hl
    obtain ⟨es, bs⟩ := nd
    simp only [Nd.es_mk] at h1 hl
    have hbl := hs.1
    simp only [Nd.es_mk, Nd.bs_mk] at hbl
    obtain ⟨B1, b, rfl, e1⟩ := last_of (l := bs) (by omega)
    obtain ⟨K, hK⟩ : ∃ K, es.length = K + 1 := ⟨es.length - 1, by omega⟩
    have l2 : es.length = B1.length := by omega
    have hs2 : Shape (h + 1) ⟨es ++ [], B1 ++ b :: []⟩ := by rw [List.append_nil]; exact hs
    have ob := (shape_one l2).1 hs2
    obtain ⟨C1, c, C2, A1, Ab, A2, hp, lc1, lc2, rfl, k1, k2, k3⟩ := tr_one t
    obtain rfl : C2 = [] := List.eq_nil_of_length_eq_zero (by simpa using lc2)
    have hlst : lst (h + 1) ⟨es, B1 ++ [b]⟩ = pre es (B1.map (lst h)) ++ lst h b := by
      have := lst_one (h := h) l2 [] b [] rfl
      rw [List.append_nil] at this
      rw [this]
      simp [post]
    have hAb : Ab.Nodup := by simp only [List.nodup_cons, List.nodup_append] at hn; exact hn.2.2.1.1
    have IH : Hid (∀ w1, Below w.heap.size w w1 → Calls Try.prog 59 #[.pointer (some ⟨c, 0, none⟩)] w1 fun r w' => ∃ x, r = .returned (.agg #[.int .i64 x.k, .string x.t]) ∧ TakeTo h w1 o M c b Ab x w') := fun w1 hb =>
      ih w1 o M c b Ab (hM.below hb) k2 hAb ob.2.2.1.2.2 (by have := ob.2.2.1.1; omega) ob.2.2.1.2.1
    -- behind the child, and behind mend
    have HB : Hid (∀ w1 w2 x, Below w.heap.size w w1 → TakeTo h w1 o M c b Ab x w2 → ∃ o2, Gos o w1 w2 o2 ∧ (∀ v, w2.heap.size ≤ v → o2 v = none) ∧ ∀ w3, Below w2.heap.size w2 w3 → Calls Try.prog 60 #[.pointer (some ⟨p, 0, none⟩), .int .i64 ((K + 1 : Nat) : Int)] w3 fun r w' =>
        r = .returned (.tuple #[]) ∧ Goes (dom o2) w3 w' (fun _ => False) ∧ ∀ (v : Nat) (a0 a1 : Value), o v = none → w.heap.size ≤ v → v < w1.heap.size → TakeTo (h + 1) w o M p ⟨es, B1 ++ [b]⟩ (p :: (A1 ++ (Ab ++ A2))) x ((w'.setCell ⟨v, 0, none⟩ a0).setCell ⟨v, 1, none⟩ a1)) := by
      rintro w1 w2 x hb ⟨o2, M2, b', Ab', q1, q2, q3, q4, q5, q6, q7⟩
      refine ⟨o2, q2, fun v hv => lab_none q1 hv, fun w3 hb3 => ?_⟩
      obtain ⟨s1, s2⟩ := put_join hM hp k1 k3 t hn (q3.lower hb.size)
      have hmnd := mend_any (i := K + 1) (E1 := es) (E2 := []) (B1 := B1) (B2 := []) (hM := q1.below hb3) s1.tr s1.nd (by simp) (by omega) l2 rfl (by simp; omega) (by simp; omega) ob.2.1 (by simp) q4 (by have := ob.2.2.1.1; omega) (by have := ob.2.2.1.2.1; omega)
      refine hmnd.mono ?_
      rintro r w4 ⟨rfl, o4, M4, n4, A4, j1, j2, j3, j4, j5, j6, j7⟩
      refine ⟨rfl, ⟨j2.os, j2.tape, j2.output, j2.size, j2.block, fun _ h => h.elim⟩, fun v a0 a1 hv hv1 hv2 => ?_⟩
      have g12 : Gos o w w2 o2 := goes_pre hb q2
      have gall : Gos o w w4 o4 := (g12.trans (Gos.of_below hb3)).trans j2
      have hv2' : o2 v = none := goes_none q2 hv hv2
      have hv4 : o4 v = none := goes_none j2 hv2' (by have := q2.size; have := hb3.size; omega)
      have N := (⟨j1, gall⟩ : Now w o w4 o4 M4).off2 hv4 hv1 a0 a1
      refine ⟨o4, M4, n4, A4, N.mem, N.go, s1.trans j3 (by have := hb.size; have := q2.size; have := hb3.size; omega), j4, ?_, by simpa using j6, by simpa using j7⟩
      rw [j5, hlst, q5, ← List.append_assoc]
      congr 1
      have := lst_one (h := h) l2 [] b' [] rfl
      rw [List.append_nil] at this
      rw [this]
      simp [post]
    have N1 : Hid (Mem (w.alloc (.cells #[.int .i64 0, .string ⟨#[]⟩] 87)) o M) := hM.below (bx _ _)
    have HB0 : Hid (Below w.heap.size w (w.alloc (.cells #[.int .i64 0, .string ⟨#[]⟩] 87))) := bx _ _
    have b1 := TE.box2 (w := w) (x := .int .i64 0) (y := .string ⟨#[]⟩) (T := 87) (Below.refl _ _)
    have fb0 := frz_new w #[.int .i64 0, .string ⟨#[]⟩] 87 0
    have fb1 := frz_new w #[.int .i64 0, .string ⟨#[]⟩] 87 1
    have hws : (w.alloc (.cells #[.int .i64 0, .string ⟨#[]⟩] 87)).heap.size = w.heap.size + 1 := by simp
    have hlb : Hid (o w.heap.size = none) := lab_none hM (Nat.le_refl _)
    obtain ⟨ae, ce, ab, cb, op⟩ := N1.out.open_ hp
    have KL := hid (last_any _ p _ _ ce ab cb op)
    obtain ⟨gb, go, rfl, d1⟩ := op.kid (j := K + 1) (c := c) (by rw [← hK, l2, ← lc1]; simp)
    have q1 := op.at_.c0
    have q2 := op.at_.c1
    have hCN : (C1 ++ [c]).length = K + 2 := by simp; omega
    simp only at q1 q2 KL
    rw [hK] at q1
    rw [hCN] at KL q2
    have k0 : (0 : Int) ≤ (K : Int) := by omega
    have k2 : (K : Int) ≤ 6 := by omega
    obtain ⟨CN, hN2⟩ : ∃ N, N = K + 2 := ⟨_, rfl⟩
    rw [← hN2] at KL q2
    have k5 : (K : Int) + 1 < (CN : Int) := by omega
    have k6 : K + 1 < CN := by omega
    have k7 : (CN == 0) = false := by simp; omega
    rw [k7] at KL
    have kw : IntKind.i64.wrap ((K : Int) + 1) = (K : Int) + 1 := IntWalk.i64_in _ ⟨by omega, by omega⟩
    clear hM t hn hs h1 hl hbl ih hlst hAb ob k1 k3 hp lc1 lc2 l2 hs2 op hCN hN2 e1 k7
    go_enter Try.func59, Try.ntmps59
    go_upto_region 1 with fail
    generalize w.alloc (.cells #[.int .i64 0, .string ⟨#[]⟩] 87) = w1 at *
    generalize hvb : w.heap.size = vb at *
    have HV := hid hvb
    clear hvb
    obtain ⟨b1, b2⟩ := b1
    have HWS := hid hws
    clear hws
    go_wp2_with fail
    refine KL.out.mono ?_
    rintro r w2 ⟨rfl, rfl⟩
    clear KL
    have IH2 := hid (IH.out w2 HB0.out)
    go_upto_region 6 with fail
    go_wp2_with fail
    refine IH2.out.mono ?_
    rintro r w3 ⟨x, rfl, hT⟩
    obtain ⟨o2, g2, hE, hM2⟩ := HB.out w2 w3 x HB0.out hT
    have hvs : vb < w2.heap.size := by rw [HWS.out]; exact Nat.lt_succ_self _
    have u1 := goes_cell' g2.toGoes hlb.out b1
    have u2 := goes_cell' g2.toGoes hlb.out b2
    have u3 := goes_frz' g2.toGoes hlb.out hvs fb0
    have u4 := goes_frz' g2.toGoes hlb.out hvs fb1
    have hov : Hid (o2 vb = none) := goes_none g2 hlb.out hvs
    have hoe : Hid (o2 w3.heap.size = none) := hE _ (Nat.le_refl _)
    have HM2 := hid hM2
    have HV3 : Hid (vb < w3.heap.size) := Nat.lt_of_lt_of_le hvs g2.size
    have HV2 := hid hvs
    clear g2 hE hM2 hT IH IH2 HB b1 b2 fb0 fb1 d1 q1 q2 N1 hvs
    obtain ⟨xk, xt⟩ := x
    go_upto_region 7 with fail
    have x0 := TE.box2 (w := w3) (x := .int .i64 xk) (y := .string xt) (T := 87) (Below.refl _ _)
    have hb3 : Below w3.heap.size w3 (w3.alloc (.cells #[.int .i64 xk, .string xt] 87)) := bx _ _
    generalize w3.alloc (.cells #[.int .i64 xk, .string xt] 87) = w4 at *
    have t1 := TE.keep1 hb3 u1
    have t2 := TE.keep1 hb3 u2
    have t3 := (hb3.frozen (p := ⟨vb, 0, none⟩) HV3.out).trans u3
    have t4 := (hb3.frozen (p := ⟨vb, 1, none⟩) HV3.out).trans u4
    have KM := hid (HM2.out w4 hb3)
    have HV4 : Hid (vb < w4.heap.size) := Nat.lt_of_lt_of_le HV3.out hb3.size
    have HE4 : Hid (w3.heap.size < w4.heap.size) := World.block_lt_of_cell? _ _ x0.1
    rw [show ((K + 1 : Nat) : Int) = (K : Int) + 1 by omega] at KM
    obtain ⟨x1, x2⟩ := x0
    clear hb3 u1 u2 u3 u4 HM2
    generalize w3.heap.size = eb at *
    go_wp2_with fail
    refine KM.out.mono ?_
    rintro r w5 ⟨rfl, g5, fin⟩
    have y1 := goes_cell' g5 hov.out t1
    have y2 := goes_cell' g5 hov.out t2
    have y3 := goes_frz' g5 hov.out HV4.out t3
    have y4 := goes_frz' g5 hov.out HV4.out t4
    have y5 := goes_cell' g5 hoe.out x1
    have y6 := goes_cell' g5 hoe.out x2
    have HF := hid (fin vb (.int .i64 xk) (.string xt) hlb.out (Nat.le_refl _) HV2.out)
    clear g5 fin t1 t2 t3 t4 x1 x2 KM
    go_wp2_with fail
    refine bodyPost_ret (tl_result (two_set y1 y2) _ rfl) rfl ?_
    exact ⟨⟨xk, xt⟩, rfl, HF.out⟩
end Go.Proofs.Ytlefcjgemojhpab.PTree
