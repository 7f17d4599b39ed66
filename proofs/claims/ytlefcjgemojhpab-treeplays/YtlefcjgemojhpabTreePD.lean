/- A tree's Put and Drop, walked: each answers what the plain list says, and leaves a tree with these entries; no block that is not the tree's has turned. -/
import Derived.Test.YtlefcjgemojhpabTreeGrow
namespace Go.Proofs.Ytlefcjgemojhpab.PTree
open Go Go.RowKit PPool
set_option maxRecDepth 100000
theorem set_same {cur : Array Value} {i : Nat} {v : Value} (h : cur[i]? = some v) : cur.setIfInBounds i v = cur := by
  apply Array.ext
  · simp
  · intro j h1 h2
    rw [Array.getElem_setIfInBounds]
    split
    · rename_i e
      subst e
      have := (Array.getElem?_eq_some_iff.1 h).2
      exact this.symm
    · rfl
theorem text_put {w : World} {g n c : Nat} {X : List En} (h : TE.OwnPg w 0 (.slice (some ⟨g, 0, none⟩) n c) X) {k : Nat} {x : En} (hx : X[k]? = some x) (t : ByteArray) :
    w.setCell ⟨g, k * 2 + 1, none⟩ (.string t) = (w.setCell ⟨g, k * 2, none⟩ (.int .i64 x.k)).setCell ⟨g, k * 2 + 1, none⟩ (.string t) := by
  obtain ⟨cur, hh, _⟩ := TE.own_block h
  have c0 := (h.cells hx).1
  rw [cell_of_row w g _ cur _ _ hh] at c0
  have e0 := setCell_eq_setRow w g (k * 2) cur _ _ (.int .i64 x.k) hh
  rw [set_same c0] at e0
  have hh' : (w.setCell ⟨g, k * 2, none⟩ (.int .i64 x.k)).heap[g]? = some (.cells cur 87 (0, 0)) := by rw [e0]; exact setRow_heap w g cur _ _ _ hh
  rw [setCell_eq_setRow w g (k * 2 + 1) cur _ _ (.string t) hh, setCell_eq_setRow _ g (k * 2 + 1) cur _ _ (.string t) hh', e0, setRow_setRow]
theorem Mem.setRest {w : World} {o : Lab} {M : Sto} (h : Mem w o M) {t : Nat} (ht : o t = some (t, 0)) (v : Value) : Mem (w.setCell ⟨t, 2, none⟩ v) o M where
  at_ := fun p n hp => by
    obtain ⟨ve, vb, h1, h2, h3, h4, h5, h6⟩ := h.at_ p n hp
    have hne : ∀ k x, o k = some x → x ≠ (t, 0) → (w.setCell ⟨t, 2, none⟩ v).heap[k]? = w.heap[k]? := fun k x hk hx => Below.heap_setCell _ _ _ _ fun e => by subst e; rw [ht] at hk; exact hx (Option.some.inj hk).symm
    refine ⟨ve, vb, ⟨?_, ?_, ?_, ?_⟩, h2, h3.keep fun g hg => hne g _ (h5 g hg) (by simp), h4.keep fun g hg => hne g _ (h6 g hg) (by simp), h5, h6⟩
    · rw [World.cell?_setCell_other _ _ _ _ (by intro e; injection e with _ e _; omega)]; exact h1.c0
    · rw [World.cell?_setCell_other _ _ _ _ (by intro e; injection e with _ e _; omega)]; exact h1.c1
    · rw [World.frozen?_setCell]; exact h1.f0
    · rw [World.frozen?_setCell]; exact h1.f1
  lt := fun k hk => by have := h.lt k hk; simpa using this
theorem up_new_len {L : List En} (hu : Up L) {k : Int} {t : ByteArray} (h : ∀ x ∈ L, x.k ≠ k) : (up L ⟨k, t⟩).length = L.length + 1 := by
  have := up_at (e := ⟨k, t⟩) hu (hit_no h)
  rw [← this]
  have hp := pos_le L k
  simp
  omega
theorem row_len {L P Q : List En} {x : En} (hu : Up L) (hL : L = P ++ x :: Q) {k : Int} (hk : x.k = k) (t : ByteArray) : (up L ⟨k, t⟩).length = L.length ∧ (out L k).length + 1 = L.length := by
  subst hL
  obtain ⟨e1, e2⟩ := up_here (t := t) hu hk
  rw [e1, e2]
  simp
  omega
def codeP (L : List En) (k : Int) : Int := if (getL L k).isSome ∨ L.length < 2000 then 0 else 8
def putL (L : List En) (e : En) : List En := if (getL L e.k).isSome ∨ L.length < 2000 then up L e else L
def codeD (L : List En) (k : Int) : Int := if (getL L k).isSome then 0 else 6
def dropL (L : List En) (k : Int) : List En := if (getL L k).isSome then out L k else L
theorem TopAt.lab {w : World} {t : Nat} {o : Lab} {M : Sto} {h : Nat} {nd : Nd} {A : List Nat} (T : TopAt w t o M h nd A) : o t = some (t, 0) ∧ t < w.heap.size := by
  obtain ⟨cs, hp⟩ := T.tr.head
  obtain ⟨_, _, _, h2, _⟩ := T.mem.at_ t _ hp
  exact ⟨h2, T.mem.lt t (by rw [h2]; simp)⟩
/-- Behind put or drop, and the count set: grow's or shrink's answer is the tree. -/
theorem top_of {w w1 w2 : World} {t : Nat} {o o1 : Lab} {h : Nat} {nd1 : Nd} {L : List En} (hu : Up L) (hl : lst h nd1 = L) (hs : L.length ≤ 2000) (g : Goes (dom o) w w1 (dom o1)) (lt : o1 t = some (t, 0)) (tl : t < w1.heap.size) (ot : o t = some (t, 0))
    (f : w1.frozen? ⟨t, 2, none⟩ = false) (c : (w1.cell? ⟨t, 2, none⟩).isSome = true) (T : TopTo h (w1.setCell ⟨t, 2, none⟩ (.int .i64 (L.length : Int))) o1 t nd1 w2) : ∃ o', TreeAt w2 t o' L ∧ Goes (dom o) w w2 (dom o') := by
  obtain ⟨o', M', h', n', A', s, g', e⟩ := T
  have e' : lst h' n' = L := e.trans hl
  obtain ⟨v0, hv0⟩ := Option.isSome_iff_exists.1 c
  have tl' : t < (w1.setCell ⟨t, 2, none⟩ (.int .i64 (L.length : Int))).heap.size := by simpa using tl
  refine ⟨o', ⟨M', h', n', A', ⟨s, by rw [e']; exact hu, ?_, ?_, by rw [e']; exact hs⟩, e'⟩, ?_⟩
  · rw [g'.rest t 2 lt tl' (Nat.le_refl _), e']
    exact World.cell?_setCell_same _ _ _ hv0
  · rw [g'.frz t 2 lt tl', World.frozen?_setCell]; exact f
  · exact (g.setCell (q := ⟨t, 2, none⟩) (.inl (by show o t ≠ none; rw [ot]; simp)) _).trans g'.toGoes
set_option maxHeartbeats 4000000 in
theorem put_top (w : World) (t : Nat) (o : Lab) (L : List En) (T : TreeAt w t o L) (k : Int) (tx : ByteArray) (htx : tx.size ≤ 140737488355328) :
    Calls Try.prog 23 #[.pointer (some ⟨t, 0, none⟩), .int .i64 k, .string tx] w fun e w' => e = .returned (.int .i64 (codeP L k)) ∧ ∃ o', TreeAt w' t o' (putL L ⟨k, tx⟩) ∧ Goes (dom o) w w' (dom o') := by
  obtain ⟨M, h, nd, A, T, rfl⟩ := T
  have HT := hid T
  have KC := hid (clone_any tx w htx)
  have KS := hid fun w1 (hb : Below w.heap.size w w1) => seek_any h w1 o M t nd A k (T.mem.below hb) T.tr T.sh T.up (by have := T.top; omega)
  obtain ⟨V, hV⟩ : ∃ V, V = codeP (lst h nd) k := ⟨_, rfl⟩
  obtain ⟨Y, hY⟩ : ∃ Y, Y = putL (lst h nd) ⟨k, tx⟩ := ⟨_, rfl⟩
  rw [← hV, ← hY]
  have HV := hid hV
  have HY := hid hY
  clear hV hY T htx
  go_enter Try.func23, Try.ntmps23
  go_wp2_with fail
  refine KC.out.mono ?_
  rintro r w1 ⟨rfl, hb1⟩
  have KS1 := hid (KS.out w1 hb1)
  have B1 := hid hb1
  clear hb1 KS KC
  go_wp2_with fail
  refine KS1.out.mono ?_
  rintro r w2 ⟨hr, hb2⟩
  have B2 : Hid (Below w.heap.size w w2) := below_tr B1.out hb2
  clear hb2 KS1 B1
  rcases hr with ⟨q, i, m, x, rfl, f⟩ | ⟨rfl, hn⟩
  · have hx : x ∈ lst h nd := by
      obtain ⟨P, Q, e⟩ := f.row
      rw [e]; simp
    have hg := getL_some HT.out.up hx f.key
    have hg1 : Hid (V = 0) := by
      show _ = _
      rw [HV.out, codeP, hg]; simp
    have hg2 : Hid (Y = up (lst h nd) ⟨k, tx⟩) := by
      show _ = _
      rw [HY.out, putL, hg]; simp
    obtain ⟨ae, ce, ab, cb, op⟩ := (HT.out.mem.below B2.out).open_ f.at_
    have hi := (List.getElem?_eq_some_iff.1 f.el).1
    obtain ⟨ge, ce', e, -⟩ := op.e.some (by omega)
    injection e with e1 _ e3
    subst e1; subst e3
    have c0 := op.at_.c0
    have hs := f.small
    obtain ⟨x1, x2⟩ := op.e.cells f.el
    have f2 := op.e.fz (i * 2 + 1)
    have HTP := hid (text_put op.e f.el tx)
    have HO := hid op.e
    have HF := hid f
    have C0 := hid c0
    have k0 : (0 : Int) ≤ (i : Int) := by omega
    have k1 : (i : Int) < (m.es.length : Int) := by omega
    generalize hml : m.es.length = ml at *
    have HML := hid hml
    clear hml op f hx hg HV HY
    go_wp2_with fail
    go_ret
    refine ⟨by rw [hg1.out]; rfl, ?_⟩
    have T2 := HT.out.below B2.out
    have N := (⟨T2.mem, Gos.refl _ _⟩ : Now w2 o w2 o M).entry HF.out.at_ C0.out HO.out i (by rw [HML.out]; omega) x.k tx
    rw [← HTP.out] at N
    have hkx := HF.out.key
    obtain ⟨n', s1, s2, s3, s4⟩ := HF.out.set tx w2.heap.size (fun r hr => tr_lt T2.mem T2.tr r hr) T2.nd'
    rw [hkx] at N
    have hlen : (lst h n').length = (lst h nd).length := by
      obtain ⟨P, Q, e⟩ := HF.out.row
      rw [s4]
      exact (row_len T2.up e hkx tx).1
    obtain ⟨hl1, hl2⟩ := T2.lab
    refine ⟨o, ⟨_, h, n', A, ⟨⟨N.mem, s1.tr, s1.nd, s2, by rw [s3]; exact T2.top, fun e => by rw [s3]; exact T2.pos e⟩, by rw [s4]; exact up_rises T2.up, ?_, ?_, by rw [hlen]; exact T2.small⟩, by rw [hg2.out]; exact s4⟩, ?_⟩
    · rw [N.go.rest t 2 hl1 hl2 (Nat.le_refl _), hlen]; exact T2.keys
    · rw [N.go.frz t 2 hl1 hl2]; exact T2.fz
    · exact ((Gos.of_below B2.out).trans N.go).toGoes
  · have hg := getL_none hn
    have T2 := HT.out.below B2.out
    have hk2 := T2.keys
    by_cases hfull : (lst h nd).length < 2000
    · have hg1 : Hid (V = 0) := by
        show _ = _
        rw [HV.out, codeP, hg, if_pos (.inr hfull)]
      have hg2 : Hid (Y = up (lst h nd) ⟨k, tx⟩) := by
        show _ = _
        rw [HY.out, putL, if_pos (.inr hfull)]
      have KP := hid (put_any h w2 o M t nd A ⟨k, tx⟩ T2.mem T2.tr T2.nd' T2.sh T2.up T2.top hn)
      have HN := hid hn
      have k5 : ¬ (2000 : Int) ≤ ((lst h nd).length : Int) := by omega
      have HFU := hid hfull
      have HT2 := hid T2
      simp only at KP
      have HNL : Hid ((up (lst h nd) ⟨k, tx⟩).length = (lst h nd).length + 1) := up_new_len T2.up hn
      obtain ⟨NL, hNL⟩ : ∃ N, N = (lst h nd).length := ⟨_, rfl⟩
      rw [← hNL] at hk2 k5 HNL
      have hNB : (NL : Int) ≤ 2000 := by omega
      clear hn hg T2 HV HY hfull hNL
      go_wp2_with fail
      refine KP.out.mono ?_
      rintro r w3 ⟨rfl, o3, M3, n3, A3, j1, j2, j3, j4, j5, j6, j7⟩
      obtain ⟨hl1, hl2⟩ := HT2.out.lab
      have hl3 := j2.own t hl1
      have hl4 : t < w3.heap.size := Nat.lt_of_lt_of_le hl2 j2.size
      have y1 : w3.cell? ⟨t, 2, none⟩ = some (.int .i64 (NL : Int)) := (j2.rest t 2 hl1 hl2 (Nat.le_refl _)).trans hk2
      have y2 : w3.frozen? ⟨t, 2, none⟩ = false := (j2.frz t 2 hl1 hl2).trans HT2.out.fz
      have KG := hid (grow_any _ o3 M3 h t n3 A3 (j1.setRest hl3 (.int .i64 ((NL : Int) + 1))) j3.tr j3.nd j4 (by have := HT2.out.top; omega) (fun e => by have := HT2.out.pos e; omega))
      have HG : Hid (Goes (dom o) w w3 (dom o3)) := ((Gos.of_below B2.out).trans j2).toGoes
      have HL := hid j5
      have Y1 := hid y1
      have Y2 := hid y2
      have HLT := hid (And.intro hl3 (And.intro hl4 hl1))
      clear j1 j2 j3 j4 j5 j6 j7 hl1 hl2 hl3 hl4 hk2 KP
      go_wp2_with fail
      refine KG.out.mono ?_
      rintro r w4 ⟨rfl, hT⟩
      have HTT := hid hT
      clear hT KG y1 y2
      go_wp2_with fail
      go_ret
      refine ⟨by rw [hg1.out]; rfl, ?_⟩
      rw [hg2.out]
      refine top_of (up_rises HT2.out.up) HL.out (by rw [HNL.out]; omega) HG.out HLT.out.1 HLT.out.2.1 HLT.out.2.2 Y2.out (by rw [Y1.out]; rfl) ?_
      have e1 : (((up (lst h nd) ⟨k, tx⟩).length : Nat) : Int) = (NL : Int) + 1 := by rw [HNL.out]; omega
      rw [e1]
      exact HTT.out
    · have hg1 : Hid (V = 8) := by
        show _ = _
        rw [HV.out, codeP, hg, if_neg (by simp; omega)]
      have hg2 : Hid (Y = lst h nd) := by
        show _ = _
        rw [HY.out, putL, if_neg (by rw [hg]; simp; omega)]
      have k5 : (2000 : Int) ≤ ((lst h nd).length : Int) := by omega
      have HT2 := hid T2
      generalize (lst h nd).length = NL at *
      clear hn hg T2 HV HY hfull
      go_wp2_with fail
      go_ret
      exact ⟨by rw [hg1.out]; rfl, o, ⟨M, h, nd, A, HT2.out, hg2.out.symm⟩, (Gos.of_below B2.out).toGoes⟩
set_option maxHeartbeats 4000000 in
theorem drop_top (w : World) (t : Nat) (o : Lab) (L : List En) (T : TreeAt w t o L) (k : Int) :
    Calls Try.prog 21 #[.pointer (some ⟨t, 0, none⟩), .int .i64 k] w fun e w' => e = .returned (.int .i64 (codeD L k)) ∧ ∃ o', TreeAt w' t o' (dropL L k) ∧ Goes (dom o) w w' (dom o') := by
  obtain ⟨M, h, nd, A, T, rfl⟩ := T
  have HT := hid T
  have KS := hid (seek_any h w o M t nd A k T.mem T.tr T.sh T.up (by have := T.top; omega))
  obtain ⟨V, hV⟩ : ∃ V, V = codeD (lst h nd) k := ⟨_, rfl⟩
  obtain ⟨Y, hY⟩ : ∃ Y, Y = dropL (lst h nd) k := ⟨_, rfl⟩
  rw [← hV, ← hY]
  have HV := hid hV
  have HY := hid hY
  clear hV hY T
  go_enter Try.func21, Try.ntmps21
  go_wp2_with fail
  refine KS.out.mono ?_
  rintro r w2 ⟨hr, hb2⟩
  have B2 : Hid (Below w.heap.size w w2) := hb2
  clear hb2 KS
  rcases hr with ⟨q, i, m, x, rfl, f⟩ | ⟨rfl, hn⟩
  · have hx : x ∈ lst h nd := by
      obtain ⟨P, Q, e⟩ := f.row
      rw [e]; simp
    have hg := getL_some HT.out.up hx f.key
    have hg1 : Hid (V = 0) := by
      show _ = _
      rw [HV.out, codeD, hg]; simp
    have hg2 : Hid (Y = out (lst h nd) k) := by
      show _ = _
      rw [HY.out, dropL, hg]; simp
    have HNL : Hid ((out (lst h nd) k).length + 1 = (lst h nd).length) := by
      obtain ⟨P, Q, e⟩ := f.row
      exact (row_len HT.out.up e f.key ⟨#[]⟩).2
    have T2 := HT.out.below B2.out
    have hk2 := T2.keys
    have h1 : 1 ≤ nd.es.length := by
      cases h with
      | zero =>
        have : 0 < nd.es.length := List.length_pos_of_mem hx
        omega
      | succ h => exact T2.pos (by omega)
    have KP := hid (drop_any h w2 o M t nd A k T2.mem T2.tr T2.nd' T2.sh T2.up T2.top h1 ⟨x, hx, f.key⟩)
    have HT2 := hid T2
    obtain ⟨NL, hNL⟩ : ∃ N, N = (lst h nd).length := ⟨_, rfl⟩
    have hNS : NL ≤ 2000 := by rw [hNL]; exact T2.small
    rw [← hNL] at hk2 HNL
    have hNB : (NL : Int) ≤ 2000 := by omega
    have hN1 : 1 ≤ NL := by have := HNL.out; omega
    have hN2 : (1 : Int) ≤ (NL : Int) := by omega
    clear f hx hg T2 HV HY hNL h1
    go_wp2_with fail
    refine KP.out.mono ?_
    rintro r w3 ⟨rfl, o3, M3, n3, A3, j1, j2, j3, j4, j5, j6, j7⟩
    obtain ⟨hl1, hl2⟩ := HT2.out.lab
    have hl3 := j2.own t hl1
    have hl4 : t < w3.heap.size := Nat.lt_of_lt_of_le hl2 j2.size
    have y1 : w3.cell? ⟨t, 2, none⟩ = some (.int .i64 (NL : Int)) := (j2.rest t 2 hl1 hl2 (Nat.le_refl _)).trans hk2
    have y2 : w3.frozen? ⟨t, 2, none⟩ = false := (j2.frz t 2 hl1 hl2).trans HT2.out.fz
    have KG := hid (shrink_any _ o3 M3 h t n3 A3 (j1.setRest hl3 (.int .i64 ((NL : Int) - 1))) j3.tr j3.nd j4 (by have := HT2.out.top; omega))
    have HG : Hid (Goes (dom o) w w3 (dom o3)) := ((Gos.of_below B2.out).trans j2).toGoes
    have HL := hid j5
    have Y1 := hid y1
    have Y2 := hid y2
    have HLT := hid (And.intro hl3 (And.intro hl4 hl1))
    clear j1 j2 j3 j4 j5 j6 j7 hl1 hl2 hl3 hl4 hk2 KP
    go_wp2_with fail
    refine KG.out.mono ?_
    rintro r w4 ⟨rfl, hT⟩
    have HTT := hid hT
    clear hT KG y1 y2
    go_wp2_with fail
    go_ret
    refine ⟨by rw [hg1.out]; rfl, ?_⟩
    rw [hg2.out]
    refine top_of (out_rises HT2.out.up) HL.out (by have := HNL.out; omega) HG.out HLT.out.1 HLT.out.2.1 HLT.out.2.2 Y2.out (by rw [Y1.out]; rfl) ?_
    have e1 : (((out (lst h nd) k).length : Nat) : Int) = (NL : Int) - 1 := by have := HNL.out; omega
    rw [e1]
    exact HTT.out
  · have hg := getL_none hn
    have hg1 : Hid (V = 6) := by
      show _ = _
      rw [HV.out, codeD, hg]; rfl
    have hg2 : Hid (Y = lst h nd) := by
      show _ = _
      rw [HY.out, dropL, hg]; rfl
    have HT2 := hid (HT.out.below B2.out)
    clear hn hg HV HY
    go_wp2_with fail
    go_ret
    exact ⟨by rw [hg1.out]; rfl, o, ⟨M, h, nd, A, HT2.out, hg2.out.symm⟩, (Gos.of_below B2.out).toGoes⟩
end Go.Proofs.Ytlefcjgemojhpab.PTree
