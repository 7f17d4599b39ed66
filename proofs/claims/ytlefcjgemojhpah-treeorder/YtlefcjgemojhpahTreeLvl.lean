/- tree's Levels, walked: level by level how many keys each node has, in memory of its own. -/
import Derived.Test.YtlefcjgemojhpahTreeBfs
import Derived.Deep.LoopGhost
namespace Go.Proofs.Ytlefcjgemojhpah.PTree
open Go Go.RowKit PPool
set_option maxRecDepth 100000
theorem OwnR.keepTy {α : Type} {enc : α → Value} {ty : TypeId} {w w' : World} {b : Nat} {v : Value} {X : List α} (h : OwnR enc ty w b v X) (hb : ∀ g cur, b ≤ g → w.heap[g]? = some (.cells cur ty (0, 0)) → w'.heap[g]? = w.heap[g]?) : OwnR enc ty w' b v X := by
  refine h.keep fun g hg => ?_
  rcases h.2 with ⟨e, _⟩ | ⟨g', cap, cur, hv, hbg, hh, _⟩
  · rw [e] at hg; cases hg
  · have : g' = g := by rw [hv] at hg; simpa [Value.ownBlock] using hg
    subst this
    exact hb g' cur hbg hh
def toI (l : List Nat) : List Int := l.map fun n : Nat => (n : Int)
structure LvAt (w : World) (b : Nat) (S : List Value) (Lv : List (List Nat)) : Prop where
  len : S.length = Lv.length
  at_ : ∀ (i : Nat) row, Lv[i]? = some row → ∃ u, S[i]? = some u ∧ OwnInts w b u (toI row)
abbrev OwnSl := OwnR (fun v : Value => v) 31
theorem LvAt.below {w w' : World} {b : Nat} {S : List Value} {Lv : List (List Nat)} (h : LvAt w b S Lv) (hb : Below w.heap.size w w') : LvAt w' b S Lv :=
  ⟨h.len, fun i row hi => by obtain ⟨u, h1, h2⟩ := h.at_ i row hi; exact ⟨u, h1, OwnR.below h2 hb⟩⟩
theorem LvAt.keepTy {w w' : World} {b : Nat} {S : List Value} {Lv : List (List Nat)} (h : LvAt w b S Lv) (hb : ∀ g cur, b ≤ g → w.heap[g]? = some (.cells cur 3 (0, 0)) → w'.heap[g]? = w.heap[g]?) : LvAt w' b S Lv :=
  ⟨h.len, fun i row hi => by obtain ⟨u, h1, h2⟩ := h.at_ i row hi; exact ⟨u, h1, OwnR.keepTy h2 hb⟩⟩
theorem LvAt.snoc {w : World} {b : Nat} {S : List Value} {Lv : List (List Nat)} (h : LvAt w b S Lv) {u : Value} {row : List Nat} (hu : OwnInts w b u (toI row)) : LvAt w b (S ++ [u]) (Lv ++ [row]) :=
  ⟨by simp [h.len], fun i r hi => by
    by_cases e : i < Lv.length
    · rw [List.getElem?_append_left e] at hi
      obtain ⟨x, h1, h2⟩ := h.at_ i r hi
      exact ⟨x, by rw [List.getElem?_append_left (by rw [h.len]; exact e)]; exact h1, h2⟩
    · rw [List.getElem?_append_right (by omega)] at hi
      obtain ⟨g1, g2⟩ := List.getElem?_eq_some_iff.1 hi
      have e0 : i - Lv.length = 0 := by simp at g1; omega
      rw [e0] at hi
      simp only [List.getElem?_cons_zero, Option.some.injEq] at hi
      subst hi
      exact ⟨u, by rw [List.getElem?_append_right (by rw [h.len]; omega), h.len, e0]; rfl, hu⟩⟩
/-- Only blocks of unlike elements than a row's have turned. -/
theorem other_ty {w w' : World} {b : Nat} {v : Value} {X : List Value} (h : OwnSl w b v X) (hg : w.grownBy w' v.ownBlock) {ty : TypeId} (hty : ty ≠ 31) : ∀ g cur, b ≤ g → w.heap[g]? = some (.cells cur ty (0, 0)) → w'.heap[g]? = w.heap[g]? := fun g cur _ hh => by
  have hlt : g < w.heap.size := lt_of_heap hh
  refine hg.block g hlt fun e => ?_
  rcases h.2 with ⟨e2, _⟩ | ⟨g', cap, cur', hv, _, hh', _⟩
  · rw [e2] at e; cases e
  · have : g' = g := by rw [hv] at e; simpa [Value.ownBlock] using e.symm
    subst this
    rw [hh] at hh'
    injection hh' with hh'
    injection hh' with _ e _
    exact hty e
theorem made_ints (n : Nat) : madeCells #[.int .i64 0] (n * 1) = ((List.replicate n (0 : Int)).map (Value.int .i64)).toArray := by
  apply Array.ext'
  unfold madeCells
  rw [Array.toList_map, Array.toList_range, List.map_replicate]
  apply List.ext_getElem?
  intro j
  rw [List.getElem?_map]
  show _ = (List.replicate n (Value.int .i64 0))[j]?
  rw [List.getElem?_replicate]
  by_cases hj : j < n
  · rw [List.getElem?_range (by omega), if_pos hj]
    simp [Nat.mod_one]
  · rw [List.getElem?_eq_none (by simp; omega), if_neg hj]
    rfl
theorem OwnInts.made (w : World) (n : Nat) (hn : n ≤ maxLen) : OwnInts (w.alloc (.cells (madeCells #[.int .i64 0] (n * 1)) 3)) w.heap.size (.slice (some ⟨w.heap.size, 0, none⟩) n n) (List.replicate n 0) := by
  rw [made_ints]
  refine ⟨by simp, .inr ⟨w.heap.size, n, _, by simp, Nat.le_refl _, heap_alloc_new w _, by simp, hn, by simp, ?_⟩⟩
  simp
/-- Numbers in the making. -/
def part (l : List Nat) (k : Nat) : List Int := toI (l.take k) ++ List.replicate (l.length - k) 0
theorem part_len (l : List Nat) {k : Nat} (hk : k ≤ l.length) : (part l k).length = l.length := by unfold part toI; simp; omega
theorem part_all (l : List Nat) : part l l.length = toI l := by unfold part; simp
theorem part_set {l : List Nat} {k n : Nat} (hn : l[k]? = some n) : (part l k).set k (n : Int) = part l (k + 1) := by
  obtain ⟨g1, g2⟩ := List.getElem?_eq_some_iff.1 hn
  unfold part toI
  have l1 : ((l.take k).map fun n : Nat => (n : Int)).length = k := by simp; omega
  rw [List.set_append_right _ _ (by omega), l1, Nat.sub_self, show l.length - k = (l.length - (k + 1)) + 1 by omega, List.replicate_succ, List.set_cons_zero, List.take_add_one, hn]
  simp
theorem part_lt {l : List Nat} {k : Nat} (hk : k < l.length) : k < (part l k).length := by rw [part_len l (by omega)]; exact hk
def LvSt (M : Sto) (h : Nat) (nd : Nd) (done : List (List Nat)) (ps : List Nat) : Prop := ∃ rest, levels h [nd] = done ++ rest ∧ ((rest = [] ∧ ps = []) ∨ ∃ h' ns A', rest = levels h' ns ∧ Rws (Tr h' M) ns ps A' ∧ 1 ≤ ns.length ∧ ns.length ≤ 2000 ∧ (∀ n ∈ ns, Shape h' n) ∧ keys h' ns ≤ 2000)
/-- A level more. -/
theorem LvSt.next {M : Sto} {h : Nat} {nd : Nd} {done : List (List Nat)} {ps : List Nat} (s : LvSt M h nd done ps) (hp : 0 < ps.length) : ∃ ns : List Nd, ps.length = ns.length ∧ ns.length ≤ 2000 ∧ (∀ (i p : Nat), ps[i]? = some p → ∃ (n : Nd) (cs : List Nat), ns[i]? = some n ∧ M p = some ⟨n.es, cs⟩) ∧ (∀ p ∈ ps, M p ≠ none) ∧ (ps.flatMap (csOf M)).length ≤ 2000 ∧
    LvSt M h nd (done ++ [counts ns]) (ps.flatMap (csOf M)) ∧ (levels h [nd]).length - (done ++ [counts ns]).length < (levels h [nd]).length - done.length := by
  obtain ⟨rest, e, ⟨rfl, rfl⟩ | ⟨h', ns, A', rfl, hr, l1, l2, hs, hk⟩⟩ := s
  · simp at hp
  · have hin : ∀ p ∈ ps, M p ≠ none := fun p hp => by
      obtain ⟨i, hi⟩ := List.getElem?_of_mem hp
      obtain ⟨n, cs, _, h2⟩ := rws_at hr i p hi
      rw [h2]; simp
    have hll := congrArg List.length e
    rw [List.length_append, levels_len, levels_len] at hll
    cases h' with
    | zero =>
      have he : ps.flatMap (csOf M) = [] := rws_end hr
      refine ⟨ns, hr.len, l2, fun i p hp => rws_at hr i p hp, hin, by rw [he]; simp, ⟨[], by rw [e]; simp [levels], .inl ⟨rfl, he⟩⟩, ?_⟩
      simp only [levels_len, List.length_append, List.length_cons, List.length_nil]
      omega
    | succ h' =>
      obtain ⟨A2, hr2⟩ := rws_below hr
      have hok := below_ok hs
      have k1 := keys_succ hs
      have k2 := keys_two hok
      have k3 := below_len hs
      have hl2 : (ps.flatMap (csOf M)).length = (below ns).length := hr2.len
      refine ⟨ns, hr.len, l2, fun i p hp => rws_at hr i p hp, hin, by rw [hl2]; omega, ⟨levels h' (below ns), by rw [e, levels, List.append_assoc]; rfl, .inr ⟨h', below ns, A2, rfl, hr2, by omega, by omega, fun n hn => (hok n hn).2.2, by omega⟩⟩, ?_⟩
      simp only [levels_len, List.length_append, List.length_cons, List.length_nil]
      omega
theorem LvSt.over {M : Sto} {h : Nat} {nd : Nd} {done : List (List Nat)} {ps : List Nat} (s : LvSt M h nd done ps) (hp : ps.length = 0) : done = levels h [nd] := by
  obtain ⟨rest, e, ⟨rfl, rfl⟩ | ⟨h', ns, A', rfl, hr, l1, _⟩⟩ := s
  · rw [e, List.append_nil]
  · have := hr.len; omega
theorem tint_info : (Try.prog.info? 3).map (fun i => (i.zero, i.size, i.bytes)) = some (some (.int .i64 0), 1, 8) := by kernel_rfl
theorem sl_info : (Try.prog.info? 31).map (fun i => (i.zero, i.size, i.bytes)) = some (some (.slice none 0 0), 1, 24) := by kernel_rfl
theorem many_small {w : World} {t : Nat} {o : Lab} {M : Sto} {h : Nat} {nd : Nd} {A : List Nat} (T : TopAt w t o M h nd A) : h ≤ 100 := by
  cases h with
  | zero => omega
  | succ h =>
    have h1 := many_keys T.sh (T.pos (by omega))
    have h2 := T.small
    by_cases e : h ≤ 99
    · omega
    · exfalso
      have h3 : 3 ^ 100 ≤ 3 ^ (h + 1) := Nat.pow_le_pow_right (by omega) (by omega)
      have h4 : 2000 < 3 ^ 100 := by decide
      omega
set_option maxHeartbeats 4000000 in
theorem levels_any (w : World) (t : Nat) (o : Lab) (M : Sto) (h : Nat) (nd : Nd) (A : List Nat) (T : TopAt w t o M h nd A) :
    Calls Try.prog 21 #[.pointer (some ⟨t, 0, none⟩)] w fun e w' => ∃ v S, e = .returned v ∧ OwnSl w' w.heap.size v S ∧ LvAt w' w.heap.size S (levels h [nd]) ∧ Below w.heap.size w w' := by
  obtain ⟨i0, hi, hz0, hz1, hz2⟩ := info_parts sl_info
  have HT := hid T
  have HM := hid T.mem
  have S0 : Hid (LvSt M h nd [] [t]) := ⟨levels h [nd], rfl, .inr ⟨h, [nd], _, rfl, Rws.one T.tr, by simp, by simp, by simpa using T.sh, by simpa [keys] using T.small⟩⟩
  have hmk : ∀ (W : World) (n : Nat), n ≤ 2000 → (Instr.makeSlice 31 (.int .i64 (n : Int)) (.int .i64 (n : Int))).run Try.prog W = .ok (.slice (some ⟨W.heap.size, 0, none⟩) n n) (W.alloc (.cells (madeCells #[.int .i64 0] (n * 1)) 3)) := by
    intro W n hn
    obtain ⟨i3, h3, z0, z1, z2⟩ := info_parts tint_info
    have := run_make (P := Try.prog) W 31 3 i3 (.int .i64 0) Try.underlying31 h3 z0 .i64 .i64 n n (by omega) (by omega) (by rw [z2]; omega) (by omega)
    rw [z1] at this
    exact this
  have HMK := hid hmk
  clear T hmk
  go_enter Try.func21, Try.ntmps21
  go_wp2_with fail
  have R0 : Hid (TP.OwnPg (w.alloc (.cells #[.pointer (some ⟨t, 0, none⟩)] 78)) 0 (.slice (some ⟨w.heap.size, 0, none⟩) 1 1) ([t].map pt)) := own_box w t
  have R0' : Hid (TP.OwnPg (w.alloc (.cells #[.pointer (some ⟨t, 0, none⟩)] 78)) w.heap.size (.slice (some ⟨w.heap.size, 0, none⟩) 1 1) ([t].map pt)) := own_raise R0.out fun k hk => by
    have : w.heap.size = k := by simpa [Value.ownBlock] using hk
    omega
  go_loopg [3, 4] (levels h [nd]).length (fun gn lv row wr => ∃ (done : List (List Nat)) (S : List Value) (ps : List Nat), Hid ((levels h [nd]).length - done.length = gn) ∧ Hid (LvSt M h nd done ps) ∧ Hid (OwnSl wr w.heap.size lv S) ∧ Hid (LvAt wr w.heap.size S done) ∧ Hid (TP.OwnPg wr w.heap.size row (ps.map pt)) ∧ Hid (Below w.heap.size w wr))
  case atStart => exact ⟨[], [], [t], rfl, S0, OwnR.nil _ _, ⟨rfl, fun i row hi => by simp at hi⟩, R0', bx _ _⟩
  case round =>
    obtain ⟨done, S, ps, hg, hS, hO, hL, hR, hb⟩ := hrel
    obtain ⟨w1, hw1⟩ : ∃ w1, w1 = wr := ⟨_, rfl⟩
    subst hw1
    obtain ⟨lv, hlv⟩ : ∃ lv, lv = u3 := ⟨_, rfl⟩
    subst hlv
    obtain ⟨G, hG⟩ : ∃ G, G = gk := ⟨_, rfl⟩
    subst hG
    by_cases hp : 0 < ps.length
    · obtain ⟨ns, n1, n2, n3, n4, n5, n6, n7⟩ := hS.out.next hp
      obtain ⟨gr, cr, e, hcr⟩ := TP.OwnPg.some hR.out (by simpa using hp)
      subst e
      obtain ⟨N, hN⟩ : ∃ N, N = ps.length := ⟨_, rfl⟩
      have hN' : N = (counts ns).length := by rw [hN, n1]; simp [counts]
      have N3 := hid n3
      have N4 := hid n4
      have N5 := hid n5
      have N6 := hid n6
      have N7 := hid n7
      have RP := hid (TP.own_pg hR.out)
      have HN := hid hN
      have HN' := hid hN'
      have hN2 : N ≤ 2000 := by omega
      have hm := HMK.out w1 N hN2
      have k0 : (0 : Int) < (N : Int) := by omega
      simp only [List.length_map, ← hN] at hR RP ⊢
      clear n1 n3 n4 n5 n6 n7 hN hN' hp
      go_wp2_with fail
      have I0 : Hid (OwnInts (w1.alloc (.cells (madeCells #[.int .i64 0] (N * 1)) 3)) w1.heap.size (.slice (some ⟨w1.heap.size, 0, none⟩) N N) (part (counts ns) 0)) := by
        have := OwnInts.made w1 N (by unfold maxLen; omega)
        have e : part (counts ns) 0 = List.replicate N 0 := by unfold part toI; rw [HN'.out]; simp
        show OwnInts _ _ _ _
        rw [e]; exact this
      clear hm
      go_loopg [22] N (fun gn i wi => ∃ k : Nat, Hid (k + gn = N) ∧ i = .int .i64 (k : Int) ∧ Hid (OwnInts wi w1.heap.size (.slice (some ⟨w1.heap.size, 0, none⟩) N N) (part (counts ns) k)) ∧ Hid (Below w1.heap.size w1 wi))
      case atStart => exact ⟨0, Nat.zero_add _, rfl, by have := I0.out; rwa [Nat.mul_one] at this, bx _ _⟩
      case round =>
        obtain ⟨k, hkn, rfl, hI, hbi⟩ := hrel
        have HS1 : Hid (w.heap.size ≤ w1.heap.size) := hb.out.size
        by_cases hlt : k < N
        · obtain ⟨p, hp⟩ : ∃ p, ps[k]? = some p := ⟨_, List.getElem?_eq_getElem (by rw [← HN.out]; exact hlt)⟩
          obtain ⟨n, cs, hn1, hn2⟩ := N3.out k p hp
          have ep : (ps.map pt)[k]? = some (pt p) := by rw [List.getElem?_map, hp]; rfl
          obtain ⟨b, oo, eb, d1⟩ := (RowAt.below RP.out hbi.out) k _ ep
          cases eb
          obtain ⟨ae, ce, ab, cb, op⟩ := (HM.out.below (below_tr hb.out hbi.out)).open_ hn2
          have c0 := op.at_.c0
          have hcn : (counts ns)[k]? = some n.es.length := by unfold counts; rw [List.getElem?_map, hn1]; rfl
          have HCN := hid hcn
          have k1 : (0 : Int) ≤ (k : Int) := by omega
          have k2 : (k : Int) < (N : Int) := by omega
          have x1 := hI.out.cell (k := k) (x := (part (counts ns) k)[k]'(part_lt (by rw [← HN'.out]; exact hlt))) (List.getElem?_eq_getElem _)
          have x2 := hI.out.fz k
          obtain ⟨g', hg'⟩ : ∃ g', g' = gk - 1 := ⟨_, rfl⟩
          have hgk : Hid (g' < gk ∧ k + 1 + g' = N) := by have := hkn.out; exact ⟨by omega, by omega⟩
          replace d1 : wr.cell? ⟨gr, 0 + k, none⟩ = some (.pointer (some ⟨p, 0, none⟩)) := d1
          rw [Nat.zero_add] at d1
          generalize (part (counts ns) k)[k]'(part_lt (by rw [← HN'.out]; exact hlt)) = z at *
          simp only at c0
          obtain ⟨nl, hnl⟩ : ∃ nl, nl = n.es.length := ⟨_, rfl⟩
          rw [← hnl] at c0 HCN
          clear op ep hp hn1 hn2 hcn hnl hg'
          go_wp2_with fail
          go_roundg g'
          case measure => exact hgk.out.1
          case rel => exact ⟨k + 1, hgk.out.2, by go_num, by rw [← part_set HCN.out]; exact hI.out.set k (nl : Int), hbi.out.setCell (p := ⟨w1.heap.size, k, none⟩) (Nat.le_refl _) _⟩
        · obtain rfl : k = N := by have := hkn.out; omega
          have e0 : part (counts ns) k = toI (counts ns) := by
            have := part_all (counts ns)
            rwa [← HN'.out] at this
          rw [e0] at hI
          clear e0
          have O1 := hid (hO.out.below hbi.out)
          have L1 := hid (hL.out.below hbi.out)
          have P1 := hid (hR.out.below hbi.out)
          have B1 := hid (below_tr hb.out hbi.out)
          have I1 := hid (hI.out.lower (base' := w.heap.size) HS1.out)
          obtain ⟨la, lc, e, -⟩ := O1.out.at_
          subst e
          have hown : wr.ownsRow w.heap.size 31 1 (.slice la S.length lc) S.length (S.map fun v : Value => v) := O1.out
          have k3 : decide ((k : Int) < (k : Int)) = false := by simp
          have HSL : Hid (S.length ≤ 2000) := by
            show _ ≤ _
            have h1 := L1.out.len
            have h2 := N7.out
            rw [levels_len] at h2
            have h3 := many_small HT.out
            omega
          have HBS : Hid (w.heap.size ≤ wr.heap.size) := B1.out.size
          clear hI hb hbi hL hO RP I0 hkn
          go_wp2_with (at_builtin; refine wpList_append_own _ rfl _ _ 51 rfl w.heap.size 31 i0 (.slice none 0 0) 1 24 Try.underlying51 hi hz0 hz1 hz2 rfl (by decide) _ _ _ rfl (hown.alloc _) ⟨wr.heap.size, 0, none⟩ 1 1 [.slice (some ⟨w1.heap.size, 0, none⟩) k k] rfl rfl ?c1 ?c2 ?c3 ?c4 ?c5 ?_)
          case c1 => exact cell_one_new _ _ _
          case c2 => intro u hu; rw [List.mem_singleton.1 hu]; rfl
          case c3 => have := HSL.out; unfold maxLen; omega
          case c4 => have := HSL.out; omega
          case c5 => have := HBS.out; simp; omega
          intro v' w4 hown' hgrow hnil
          have O4 := hid (OwnR.grows (enc := fun v : Value => v) (X := S) (x := Value.slice (some ⟨w1.heap.size, 0, none⟩) k k) (by rw [List.map_id']; exact hown'))
          obtain ⟨IV, hIV⟩ : ∃ IV, IV = Value.slice (some ⟨w1.heap.size, 0, none⟩) k k := ⟨_, rfl⟩
          have O1' := (O1.out.below (bx wr (.cells #[Value.slice (some ⟨w1.heap.size, 0, none⟩) k k] 31)))
          have I4 := hid (OwnR.keepTy (I1.out.below (bx wr (.cells #[Value.slice (some ⟨w1.heap.size, 0, none⟩) k k] 31))) (other_ty O1' hgrow (by decide)))
          have L4 := hid (((L1.out.below (bx wr (.cells #[Value.slice (some ⟨w1.heap.size, 0, none⟩) k k] 31))).keepTy (other_ty O1' hgrow (by decide))).snoc I4.out)
          have P4 := hid (OwnR.keepTy (P1.out.below (bx wr (.cells #[Value.slice (some ⟨w1.heap.size, 0, none⟩) k k] 31))) (other_ty O1' hgrow (by decide)))
          have B4 : Hid (Below w.heap.size w w4) := (B1.out.alloc HBS.out _).grown hgrow (by have := HBS.out; simp; omega) (fun q hq => (O1'.lt q hq).1)
          have KR := hid (row_any w4 o M (HM.out.below B4.out) (some ⟨gr, 0, none⟩) cr ps (TP.own_pg P4.out) N4.out N5.out (by have := HN.out; omega))
          rw [← HN.out] at KR
          clear hown' hgrow hnil hown O1' hIV O1 I1 L1 P1 B1
          go_wp2_with fail
          refine KR.out.mono ?_
          rintro r w5 ⟨v5, rfl, hv5, hb5⟩
          have O5 := hid (O4.out.below hb5)
          have L5 := hid (L4.out.below hb5)
          have P5 := hid (hv5.lower (base' := w.heap.size) B4.out.size)
          have B5 := hid (below_tr B4.out hb5)
          clear hv5 hb5 KR
          go_wp2_with fail
          go_roundg ((levels h [nd]).length - (done ++ [counts ns]).length)
          case measure => have := N7.out; have := hg.out; omega
          case rel => exact ⟨done ++ [counts ns], S ++ [Value.slice (some ⟨w1.heap.size, 0, none⟩) k k], ps.flatMap (csOf M), rfl, N6, O5, L5, P5, B5⟩
    · have hd : done = levels h [nd] := hS.out.over (Nat.eq_zero_of_not_pos hp)
      obtain ⟨ga, gc, e, -⟩ := hR.out.at_
      subst e
      have hz : (ps.map pt).length = 0 := by rw [List.length_map]; exact Nat.eq_zero_of_not_pos hp
      rw [hz]
      subst hd
      go_wp2_with fail
      go_ret
      exact ⟨_, S, rfl, hO.out, hL.out, hb.out⟩
end Go.Proofs.Ytlefcjgemojhpah.PTree
