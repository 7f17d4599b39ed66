/- The reference's pool, ref by ref, in plain words, and how it stands in memory. -/
import Derived.Test.YtlcpioeobnjcdaaPoolLeaves
namespace Go.Proofs.Ytlcpioeobnjcdaa.PPool
open Go Go.RowKit Go.Maps
set_option maxRecDepth 100000

/-- What the reference's Pool does with a ref. -/
def refS (rule : Int) (k : Nat) (P : List Int) (r : Int) (rest : List Int) : List Int :=
  if r ∈ P then (if rule = 1 then P.erase r ++ [r] else P) else if P.length = k then P.eraseIdx (lv rule P rest) ++ [r] else P ++ [r]
theorem ref_fifo {k : Nat} (hk : 1 ≤ k) (refs : List Int) : (Pl.go id (refS 0 k) [] refs) = (Pl.go id (fun P r _ => Pl.fifoS k P r) [] refs) := by
  have h := Pl.go_same (pg := id) (qg := id) (f := refS 0 k) (g := fun P r _ => Pl.fifoS k P r) (fun P Q => P = Q ∧ Pl.Ok k P) (fun _ _ h => h.1) (fun P Q r rs h => by
    obtain ⟨rfl, ho⟩ := h
    have e : refS 0 k P r rs = Pl.fifoS k P r := by
      unfold refS Pl.fifoS lv
      by_cases hr : r ∈ P
      · simp [hr]
      · by_cases hl : P.length = k
        · simp [hr, hl]
        · have : P.length < k := by have := ho.room; omega
          simp [hr, hl, this]
    exact ⟨e, by rw [e]; exact (Pl.fifo_keeps hk).next P r rs ho⟩) refs [] [] ⟨rfl, Pl.Ok.nil k⟩
  exact Prod.ext h.1 h.2.1
theorem ref_lru {k : Nat} (hk : 1 ≤ k) (refs : List Int) : (Pl.go id (refS 1 k) [] refs) = (Pl.go id (fun P r _ => Pl.lruS k P r) [] refs) := by
  have h := Pl.go_same (pg := id) (qg := id) (f := refS 1 k) (g := fun P r _ => Pl.lruS k P r) (fun P Q => P = Q ∧ Pl.Ok k P) (fun _ _ h => h.1) (fun P Q r rs h => by
    obtain ⟨rfl, ho⟩ := h
    have e : refS 1 k P r rs = Pl.lruS k P r := by
      unfold refS Pl.lruS lv
      by_cases hr : r ∈ P
      · simp [hr]
      · by_cases hl : P.length = k
        · simp [hr, hl]
        · have : P.length < k := by have := ho.room; omega
          simp [hr, hl, this]
    exact ⟨e, by rw [e]; exact (Pl.lru_keeps hk).next P r rs ho⟩) refs [] [] ⟨rfl, Pl.Ok.nil k⟩
  exact Prod.ext h.1 h.2.1
theorem ref_best {k : Nat} (hk : 1 ≤ k) (refs : List Int) : (Pl.go id (refS 2 k) [] refs) = (Pl.go id (Pl.bestS k) [] refs) := by
  have h := Pl.go_same (pg := id) (qg := id) (f := refS 2 k) (g := Pl.bestS k) (fun P Q => P = Q ∧ Pl.Ok k P) (fun _ _ h => h.1) (fun P Q r rs h => by
    obtain ⟨rfl, ho⟩ := h
    have e : refS 2 k P r rs = Pl.bestS k P r rs := by
      unfold refS Pl.bestS lv
      by_cases hr : r ∈ P
      · simp [hr]
      · by_cases hl : P.length = k
        · simp [hr, hl]
        · have : P.length < k := by have := ho.room; omega
          simp [hr, hl, this]
    exact ⟨e, by rw [e]; exact Pl.bestS_next hk ho r rs⟩) refs [] [] ⟨rfl, Pl.Ok.nil k⟩
  exact Prod.ext h.1 h.2.1

/-- Pages with times that rise. -/
structure Times (L : List (Int × Nat)) (t : Nat) : Prop where
  nodup : (L.map Prod.fst).Nodup
  rise : L.Pairwise (fun p q => p.2 < q.2)
  lt : ∀ p ∈ L, p.2 < t
theorem Times.nil (t : Nat) : Times [] t := ⟨List.nodup_nil, List.Pairwise.nil, fun _ h => by simp at h⟩
theorem Times.later {L : List (Int × Nat)} {t : Nat} (h : Times L t) : Times L (t + 1) := ⟨h.nodup, h.rise, fun p hp => by have := h.lt p hp; omega⟩
theorem Times.add {L : List (Int × Nat)} {t : Nat} (h : Times L t) {x : Int} (hx : x ∉ L.map Prod.fst) : Times (L ++ [(x, t)]) (t + 1) := by
  refine ⟨?_, ?_, fun p hp => ?_⟩
  · rw [List.map_append]
    exact (Pl.ok_snoc (k := (L.map Prod.fst).length + 1) h.nodup hx (Nat.lt_succ_self _)).nodup
  · rw [List.pairwise_append]
    exact ⟨h.rise, List.pairwise_singleton _ _, fun p hp q hq => by simp at hq; subst hq; exact h.lt p hp⟩
  · rcases List.mem_append.1 hp with hp | hp
    · have := h.lt p hp; omega
    · simp at hp; subst hp; exact Nat.lt_succ_self _
theorem map_eraseIdx {α β : Type} (f : α → β) (l : List α) (k : Nat) : (l.eraseIdx k).map f = (l.map f).eraseIdx k := by
  rw [List.eraseIdx_eq_take_drop_succ, List.eraseIdx_eq_take_drop_succ, List.map_append, List.map_take, List.map_drop]
theorem Times.erase {L : List (Int × Nat)} {t : Nat} (h : Times L t) (k : Nat) : Times (L.eraseIdx k) t :=
  ⟨by rw [map_eraseIdx]; exact h.nodup.sublist (List.eraseIdx_sublist _ _), h.rise.sublist (List.eraseIdx_sublist _ _), fun p hp => h.lt p (List.mem_of_mem_eraseIdx hp)⟩

/-- How the reference's pool stands behind some refs: B the map's block. -/
structure RefAt (rule : Int) (k : Nat) (refs : List Int) (w wr : World) (hv : Value) (D : DataW Unit) (L : List (Int × Nat)) (H : List Bool) : Prop where
  map : wr.ownsMap Try.prog 3 (plainElem Try.prog 3) w.heap.size H.length D
  reads : Reads D L
  times : Times L H.length
  room : L.length ≤ k
  hits : OwnBools wr (w.heap.size + 1) hv H
  below : Below w.heap.size w wr
  size : w.heap.size + 1 ≤ wr.heap.size
  le : H.length ≤ refs.length
  mem : ∀ p ∈ L, p.1 ∈ refs
  run : Pl.go id (refS rule k) [] refs = (H ++ (Pl.go id (refS rule k) (L.map Prod.fst) (refs.drop H.length)).1, (Pl.go id (refS rule k) (L.map Prod.fst) (refs.drop H.length)).2)
theorem RefAt.next {rule : Int} {k : Nat} {refs : List Int} {w wr : World} {hv : Value} {D : DataW Unit} {L : List (Int × Nat)} {H : List Bool} (h : RefAt rule k refs w wr hv D L H) {r : Int} (hr : refs[H.length]? = some r) {w1 : World} {hv' : Value} {D' : DataW Unit} {L' : List (Int × Nat)}
    (e : L'.map Prod.fst = refS rule k (L.map Prod.fst) r (refs.drop (H.length + 1))) (hm : w1.ownsMap Try.prog 3 (plainElem Try.prog 3) w.heap.size (H.length + 1) D') (hd : Reads D' L') (ht : Times L' (H.length + 1)) (hk : L'.length ≤ k)
    (hh : OwnBools w1 (w.heap.size + 1) hv' (H ++ [decide (r ∈ L.map Prod.fst)])) (hb : Below w.heap.size w w1) (hs : w.heap.size + 1 ≤ w1.heap.size) (hmem : ∀ p ∈ L', p.1 ∈ refs) :
    RefAt rule k refs w w1 hv' D' L' (H ++ [decide (r ∈ L.map Prod.fst)]) := by
  obtain ⟨g1, g2⟩ := List.getElem?_eq_some_iff.1 hr
  have e1 : (H ++ [decide (r ∈ L.map Prod.fst)]).length = H.length + 1 := by simp
  refine ⟨by rw [e1]; exact hm, hd, by rw [e1]; exact ht, hk, hh, hb, hs, by rw [e1]; omega, hmem, ?_⟩
  rw [h.run, e1, List.drop_eq_getElem_cons g1, g2, e]
  simp [Pl.go]
/-- Behind an append to the bools. -/
theorem RefAt.added {rule : Int} {k : Nat} {refs : List Int} {w wr : World} {hv : Value} {D : DataW Unit} {L : List (Int × Nat)} {H : List Bool} (h : RefAt rule k refs w wr hv D L H) (o : Obj) {w4 : World} (hg : (wr.alloc o).grownBy w4 hv.ownBlock) :
    w4.ownsMap Try.prog 3 (plainElem Try.prog 3) w.heap.size H.length D ∧ Below w.heap.size w w4 ∧ w.heap.size + 1 ≤ w4.heap.size := by
  have hs := h.size
  have hsz : (wr.alloc o).heap.size = wr.heap.size + 1 := by simp
  refine ⟨?_, (h.below.alloc (by have := h.below.size; omega) o).grown hg (by rw [hsz]; omega) (fun b hb => by have := (h.hits.lt b hb).1; omega), by have := hg.size; omega⟩
  obtain ⟨es, clock, m1, m2⟩ := h.map
  exact ⟨es, clock, (hg.block _ (by omega) (fun e => by have := (h.hits.lt _ e.symm).1; omega)).trans ((Below.heap_alloc wr o _ (by omega)).trans m1), m2⟩
theorem own_turn {w : World} {base B : Nat} {w1 : World} {v : Value} {X : List Bool} (h : OwnBools w base v X) (hB : B < base) (hg : w.grownBy w1 (some B)) : OwnBools w1 base v X :=
  h.keep fun g hg' => hg.block g (h.lt g hg').2 (fun e => by cases e; have := (h.lt _ hg').1; omega)
theorem map_mono {w : World} {B n m : Nat} {D : DataW Unit} (h : w.ownsMap Try.prog 3 (plainElem Try.prog 3) B n D) (hn : n ≤ m) : w.ownsMap Try.prog 3 (plainElem Try.prog 3) B m D := by
  obtain ⟨es, clock, m1, m2, m3, m4⟩ := h
  exact ⟨es, clock, m1, m2, Nat.le_trans m3 hn, m4⟩
theorem map_below {w w1 : World} {B n : Nat} {D : DataW Unit} (h : w.ownsMap Try.prog 3 (plainElem Try.prog 3) B n D) (hb : Below w.heap.size w w1) : w1.ownsMap Try.prog 3 (plainElem Try.prog 3) B n D := by
  obtain ⟨es, clock, m1, m2⟩ := h
  exact ⟨es, clock, (hb.block _ (lt_of_heap m1)).trans m1, m2⟩

end Go.Proofs.Ytlcpioeobnjcdaa.PPool
