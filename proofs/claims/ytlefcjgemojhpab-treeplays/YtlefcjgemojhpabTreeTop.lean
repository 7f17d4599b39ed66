/- A tree as its callers have it: which entries it has, in their order; New, Len, Get, walked; grow and shrink of its top. -/
import Derived.Test.YtlefcjgemojhpabTreeMove
import Derived.Test.YtlefcjgemojhpabTreeClone
namespace Go.Proofs.Ytlefcjgemojhpab.PTree
open Go Go.RowKit PPool
set_option maxRecDepth 100000
/-- A node, and all below it, at its place. -/
structure SubAt (w : World) (t : Nat) (o : Lab) (M : Sto) (h : Nat) (nd : Nd) (A : List Nat) : Prop where
  mem : Mem w o M
  tr : Tr h M t nd A
  nd' : A.Nodup
  sh : Shape h nd
  top : nd.es.length ≤ 4
  pos : h ≠ 0 → 1 ≤ nd.es.length
structure TopAt (w : World) (t : Nat) (o : Lab) (M : Sto) (h : Nat) (nd : Nd) (A : List Nat) : Prop extends SubAt w t o M h nd A where
  up : Up (lst h nd)
  keys : w.cell? ⟨t, 2, none⟩ = some (.int .i64 ((lst h nd).length : Int))
  fz : w.frozen? ⟨t, 2, none⟩ = false
  small : (lst h nd).length ≤ 2000
/-- A tree with these entries. -/
def TreeAt (w : World) (t : Nat) (o : Lab) (L : List En) : Prop := ∃ M h nd A, TopAt w t o M h nd A ∧ lst h nd = L
theorem TopAt.below {w w' : World} {t : Nat} {o : Lab} {M : Sto} {h : Nat} {nd : Nd} {A : List Nat} (T : TopAt w t o M h nd A) (hb : Below w.heap.size w w') : TopAt w' t o M h nd A :=
  have hl : t < w.heap.size := tr_lt T.mem T.tr t T.tr.mem
  ⟨⟨T.mem.below hb, T.tr, T.nd', T.sh, T.top, T.pos⟩, T.up, (hb.cell (p := ⟨t, 2, none⟩) hl).trans T.keys, (hb.frozen (p := ⟨t, 2, none⟩) hl).trans T.fz, T.small⟩
theorem TreeAt.below {w w' : World} {t : Nat} {o : Lab} {L : List En} (T : TreeAt w t o L) (hb : Below w.heap.size w w') : TreeAt w' t o L := by
  obtain ⟨M, h, nd, A, T, e⟩ := T
  exact ⟨M, h, nd, A, T.below hb, e⟩
theorem TreeAt.keep {w w' : World} {t : Nat} {o : Lab} {L : List En} (T : TreeAt w t o L) (hb : ∀ k, o k ≠ none → w'.heap[k]? = w.heap[k]?) (hs : w.heap.size ≤ w'.heap.size) : TreeAt w' t o L := by
  obtain ⟨M, h, nd, A, T, e⟩ := T
  obtain ⟨cs, hp⟩ := T.tr.head
  obtain ⟨_, _, _, h2, _⟩ := T.mem.at_ t _ hp
  have ht := hb t (by rw [h2]; simp)
  exact ⟨M, h, nd, A, ⟨⟨T.mem.keep hb hs, T.tr, T.nd', T.sh, T.top, T.pos⟩, T.up, (World.cell?_of_block (a := ⟨t, 2, none⟩) ht).trans T.keys, (frozen_of_block (a := ⟨t, 2, none⟩) ht).trans T.fz, T.small⟩, e⟩
theorem TreeAt.lt {w : World} {t : Nat} {o : Lab} {L : List En} (T : TreeAt w t o L) : ∀ k, o k ≠ none → k < w.heap.size := by
  obtain ⟨M, h, nd, A, T, e⟩ := T
  exact T.mem.lt
set_option maxHeartbeats 1000000 in
theorem new_any (w : World) : Calls Try.prog 18 #[] w fun e w' => ∃ t o, e = .returned (.pointer (some ⟨t, 0, none⟩)) ∧ TreeAt w' t o [] ∧ (∀ k, o k ≠ none → w.heap.size ≤ k) ∧ Below w.heap.size w w' := by
  go_enter Try.func18, Try.ntmps18
  go_wp2_with fail
  go_ret
  have hg := heap_alloc_new w (.cells #[.slice none 0 0, .slice none 0 0, .int .i64 0] 79)
  have c := fun i => World.cell?_alloc_new w #[.slice none 0 0, .slice none 0 0, .int .i64 0] 79 i
  have f := fun i => frz_new w #[.slice none 0 0, .slice none 0 0, .int .i64 0] 79 i
  refine ⟨w.heap.size, fun k => if k = w.heap.size then some (w.heap.size, 0) else none, rfl, ⟨fun q => if q = w.heap.size then some ⟨[], []⟩ else none, 0, ⟨[], []⟩, [w.heap.size], ⟨⟨⟨fun p n hp => ?_, fun k hk => ?_⟩, ⟨by simp, rfl, rfl⟩, by simp, rfl, by simp, fun h => absurd rfl h⟩, List.Pairwise.nil, c 2, f 2, by simp [lst]⟩, rfl⟩, fun k hk => ?_, bx _ _⟩
  · by_cases e : p = w.heap.size
    · subst e
      simp only [if_true] at hp
      cases hp
      exact ⟨_, _, ⟨c 0, c 1, f 0, f 1⟩, if_pos rfl, TE.OwnPg.nil _ _, OwnR.nil _ _, fun g hg => (by cases hg), fun g hg => (by cases hg)⟩
    · simp only [if_neg e] at hp
      cases hp
  · by_cases e : k = w.heap.size
    · subst e; simp
    · simp only [if_neg e] at hk
      exact absurd rfl hk
  · by_cases e : k = w.heap.size
    · omega
    · simp only [if_neg e] at hk
      exact absurd rfl hk
set_option maxHeartbeats 1000000 in
theorem len_any (w : World) (t : Nat) (o : Lab) (L : List En) (T : TreeAt w t o L) : Calls Try.prog 26 #[.pointer (some ⟨t, 0, none⟩)] w fun e w' => e = .returned (.int .i64 (L.length : Int)) ∧ w' = w := by
  obtain ⟨M, h, nd, A, T, rfl⟩ := T
  have k := T.keys
  clear T
  generalize (lst h nd).length = n at *
  go_enter Try.func26, Try.ntmps26
  go_wp2_with fail
  go_ret
  exact ⟨rfl, rfl⟩
/-- What a key has. -/
def getL (L : List En) (k : Int) : Option ByteArray := (L.find? fun x => decide (x.k = k)).map (·.t)
theorem getL_some {L : List En} {k : Int} {x : En} (hu : Up L) (hx : x ∈ L) (hk : x.k = k) : getL L k = some x.t := by
  unfold getL
  induction L with
  | nil => simp at hx
  | cons y L ih =>
    rw [List.find?_cons]
    by_cases e : y.k = k
    · simp only [e, decide_true, Option.map_some, Option.some.injEq]
      rcases List.mem_cons.1 hx with rfl | hx
      · rfl
      · have := (List.pairwise_cons.1 hu).1 x hx; omega
    · simp only [e, decide_false]
      rcases List.mem_cons.1 hx with rfl | hx
      · exact absurd hk e
      · exact ih (List.pairwise_cons.1 hu).2 hx
theorem getL_none {L : List En} {k : Int} (h : ∀ x ∈ L, x.k ≠ k) : getL L k = none := by
  unfold getL
  rw [List.find?_eq_none.2 (by intro x hx; simpa using h x hx)]
  rfl
/-- Get's answer. -/
def getV (r : Option ByteArray) : Value := .tuple #[.string (r.getD ⟨#[]⟩), .int .i64 (if r.isSome then 0 else 6)]
set_option maxHeartbeats 2000000 in
theorem get_any (w : World) (t : Nat) (o : Lab) (L : List En) (T : TreeAt w t o L) (k : Int) (hL : ∀ x ∈ L, x.t.size ≤ 140737488355328) :
    Calls Try.prog 20 #[.pointer (some ⟨t, 0, none⟩), .int .i64 k] w fun e w' => e = .returned (getV (getL L k)) ∧ Below w.heap.size w w' := by
  obtain ⟨M, h, nd, A, T, rfl⟩ := T
  have KS := hid (seek_any h w o M t nd A k T.mem T.tr T.sh T.up (by have := T.top; omega))
  have HT := hid T
  have HL := hid hL
  clear T hL
  obtain ⟨V, hV⟩ : ∃ V, V = getV (getL (lst h nd) k) := ⟨_, rfl⟩
  rw [← hV]
  have HV := hid hV
  clear hV
  go_enter Try.func20, Try.ntmps20
  go_wp2_with fail
  refine KS.out.mono ?_
  rintro r w1 ⟨hr, hb⟩
  have HB := hid hb
  clear hb KS
  rcases hr with ⟨q, i, m, x, rfl, f⟩ | ⟨rfl, hn⟩
  · have hx : x ∈ lst h nd := by
      obtain ⟨P, Q, e⟩ := f.row
      rw [e]; simp
    have hg : Hid (V = .tuple #[.string x.t, .int .i64 0]) := by
      show _ = _
      rw [HV.out, getL_some HT.out.up hx f.key]; rfl
    have KC := hid fun W => clone_any x.t W (HL.out x hx)
    obtain ⟨ae, ce, ab, cb, op⟩ := (HT.out.mem.below HB.out).open_ f.at_
    obtain ⟨b, oo, rfl, d1, d2⟩ := op.ent f.el
    have c0 := op.at_.c0
    have hi := (List.getElem?_eq_some_iff.1 f.el).1
    have hs := f.small
    have k0 : (0 : Int) ≤ (i : Int) := by omega
    have k1 : (i : Int) < (m.es.length : Int) := by omega
    generalize m.es.length = ml at *
    clear op f HV hx HL
    obtain ⟨xk, xt⟩ := x
    simp only at d1 d2 KC hg
    go_wp2_with fail
    refine (KC.out _).mono ?_
    rintro r w2 ⟨rfl, hb2⟩
    have HB2 := hid (below_tr HB.out hb2)
    clear hb2
    go_wp2_with fail
    go_ret2
    exact ⟨by rw [hg.out]; rfl, HB2.out⟩
  · have hg : Hid (V = .tuple #[.string ⟨#[]⟩, .int .i64 6]) := by
      show _ = _
      rw [HV.out, getL_none hn]; rfl
    clear HV hn
    go_wp2_with fail
    go_ret2
    exact ⟨by rw [hg.out]; rfl, HB.out⟩
end Go.Proofs.Ytlefcjgemojhpab.PTree
