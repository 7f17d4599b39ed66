/- A node's entries, and those below, place by place: what has come when the first i places are done. -/
import Derived.Test.YtlefcjgemojhpabTreeHand
namespace Go.Proofs.Ytlefcjgemojhpab.PTree
set_option maxRecDepth 100000
def segs : List En → List (List En) → List (List En)
  | _, [] => []
  | [], l :: _ => [l]
  | e :: es, l :: ls => (l ++ [e]) :: segs es ls
theorem segs_flat : ∀ (es : List En) (ls : List (List En)), (segs es ls).flatten = weave es ls
  | _, [] => by simp [segs, weave]
  | [], l :: _ => by simp [segs, weave]
  | e :: es, l :: ls => by simp [segs, weave, segs_flat es ls]
theorem segs_len : ∀ {es : List En} {ls : List (List En)}, ls.length = es.length + 1 → (segs es ls).length = es.length + 1
  | [], [l], _ => rfl
  | e :: es, l :: ls, h => by
    have := segs_len (es := es) (ls := ls) (by simpa using h)
    simp [segs, this]
theorem segs_get : ∀ {es : List En} {ls : List (List En)} {i : Nat} {l : List En}, ls.length = es.length + 1 → ls[i]? = some l → (segs es ls)[i]? = some (l ++ (es[i]?).toList)
  | [], [l], 0, x, _, hx => by simp at hx; subst hx; simp [segs]
  | [], [l], i + 1, x, _, hx => by simp at hx
  | e :: es, l :: ls, 0, x, _, hx => by simp at hx; subst hx; simp [segs]
  | e :: es, l :: ls, i + 1, x, h, hx => by
    have := segs_get (es := es) (ls := ls) (i := i) (l := x) (by simpa using h) (by simpa using hx)
    simpa [segs] using this
def parts : Nat → Nd → List (List En)
  | 0, nd => nd.es.map fun e => [e]
  | h + 1, nd => segs nd.es (nd.bs.map (lst h))
def kidL : Nat → Nd → Nat → List En
  | 0, _, _ => []
  | h + 1, nd, i => ((nd.bs[i]?).map (lst h)).getD []
def came (h : Nat) (nd : Nd) (i : Nat) : List En := ((parts h nd).take i).flatten
theorem parts_flat {h : Nat} {nd : Nd} : (parts h nd).flatten = lst h nd := by
  cases h with
  | zero =>
    show (nd.es.map fun e => [e]).flatten = nd.es
    generalize nd.es = L
    induction L with
    | nil => rfl
    | cons x L ih => simp [ih]
  | succ h => exact segs_flat _ _
theorem came_all {h : Nat} {nd : Nd} (hs : Shape h nd) {i : Nat} (hi : nd.es.length + 1 ≤ i) : came h nd i = lst h nd := by
  unfold came
  rw [List.take_of_length_le, parts_flat]
  cases h with
  | zero => show (nd.es.map fun e => [e]).length ≤ i; simp; omega
  | succ h => show (segs _ _).length ≤ i; rw [segs_len (by simpa using hs.1)]; exact hi
theorem came_next {h : Nat} {nd : Nd} (hs : Shape h nd) {i : Nat} (hi : i ≤ nd.es.length) : came h nd (i + 1) = came h nd i ++ kidL h nd i ++ (nd.es[i]?).toList := by
  unfold came
  rw [List.take_add_one, List.flatten_append, List.append_assoc]
  congr 1
  cases h with
  | zero =>
    show ((nd.es.map fun e => [e])[i]?).toList.flatten = _
    rw [List.getElem?_map]
    cases nd.es[i]? <;> simp [kidL]
  | succ h =>
    have hb : i < nd.bs.length := by have := hs.1; omega
    have e : (nd.bs.map (lst h))[i]? = some (lst h nd.bs[i]) := by rw [List.getElem?_map, List.getElem?_eq_getElem hb]; rfl
    show ((segs _ _)[i]?).toList.flatten = _
    rw [segs_get (by simpa using hs.1) e]
    simp [kidL, List.getElem?_eq_getElem hb]
theorem came_pre {h : Nat} {nd : Nd} {i : Nat} : came h nd i <+: lst h nd := by
  rw [← parts_flat]
  refine ⟨((parts h nd).drop i).flatten, ?_⟩
  unfold came
  rw [← List.flatten_append, List.take_append_drop]
def ge (k : Int) (L : List En) : List En := L.filter fun x => decide (k ≤ x.k)
theorem ge_app (k : Int) (L X : List En) : ge k (L ++ X) = ge k L ++ ge k X := List.filter_append ..
theorem ge_pre {k : Int} {L X : List En} (h : L <+: X) : ge k L <+: ge k X := by
  obtain ⟨Y, rfl⟩ := h
  exact ⟨ge k Y, (ge_app k L Y).symm⟩
theorem ge_low {h : Nat} {nd : Nd} (hs : Shape h nd) (hu : Up (lst h nd)) (k : Int) : ge k (came h nd (pos nd.es k)) = [] := by
  obtain ⟨i, hi⟩ : ∃ i, i = pos nd.es k := ⟨_, rfl⟩
  rw [← hi]
  cases i with
  | zero => simp [came, ge]
  | succ j =>
    have hp := pos_le nd.es k
    have hj : j < nd.es.length := by omega
    have e := came_next hs (i := j) (by omega)
    rw [List.getElem?_eq_getElem hj] at e
    have hx : (nd.es[j]).k < k := pos_take nd.es k _ (List.mem_of_getElem? (i := j) (by rw [List.getElem?_take, if_pos (by omega), List.getElem?_eq_getElem hj]))
    obtain ⟨Y, hY⟩ := came_pre (h := h) (nd := nd) (i := j + 1)
    rw [← hY, e, Up, List.pairwise_append, Option.toList_some, List.pairwise_append] at hu
    rw [e, ge, List.filter_eq_nil_iff]
    intro x hx2
    rcases List.mem_append.1 hx2 with hx2 | hx2
    · have := hu.1.2.2 x hx2 (nd.es[j]) (by simp)
      simp; omega
    · simp only [Option.toList_some, List.mem_singleton] at hx2
      subst hx2
      simp; omega
theorem ge_step {h : Nat} {nd : Nd} (hs : Shape h nd) (hu : Up (lst h nd)) (k : Int) {i : Nat} (hp : pos nd.es k ≤ i) {e : En} (he : nd.es[i]? = some e) : ge k (came h nd (i + 1)) = ge k (came h nd i) ++ ge k (kidL h nd i) ++ [e] := by
  obtain ⟨g1, g2⟩ := List.getElem?_eq_some_iff.1 he
  rw [came_next hs (by omega), he, ge_app, ge_app]
  congr 1
  have hk : k ≤ e.k := pos_drop (hu.sublist (es_sub hs)) k e (List.mem_of_getElem? (i := i - pos nd.es k) (by rw [List.getElem?_drop, show pos nd.es k + (i - pos nd.es k) = i by omega]; exact he))
  simp [ge, hk]
theorem ge_end {h : Nat} {nd : Nd} (hs : Shape h nd) (k : Int) : ge k (came h nd (nd.es.length + 1)) = ge k (came h nd nd.es.length) ++ ge k (kidL h nd nd.es.length) := by
  rw [came_next hs (Nat.le_refl _), List.getElem?_eq_none (Nat.le_refl _)]
  simp [ge_app]
end Go.Proofs.Ytlefcjgemojhpab.PTree
