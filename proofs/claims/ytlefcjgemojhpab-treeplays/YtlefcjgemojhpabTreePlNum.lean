/- The reference's rows of keys in plain words: what a put and a drop make of the keys, and which texts are wanted. -/
import Derived.Test.YtlefcjgemojhpabTreeSeq
namespace Go.Proofs.Ytlefcjgemojhpab.PTree
set_option maxRecDepth 100000
def keysOf (L : List En) : List Int := L.map (·.k)
theorem keys_len (L : List En) : (keysOf L).length = L.length := List.length_map ..
/-- L, parted at a key's place: those before are less, those behind are not. -/
theorem pos_parts {L : List En} (hu : Up L) (k : Int) : ∃ P Q, L = P ++ Q ∧ P.length = pos L k ∧ (∀ x ∈ P, x.k < k) ∧ (∀ x ∈ Q, k ≤ x.k) :=
  ⟨L.take (pos L k), L.drop (pos L k), (List.take_append_drop _ _).symm, by rw [List.length_take, Nat.min_eq_left (pos_le L k)], pos_take L k, pos_drop hu k⟩
theorem get_hit {L : List En} (hu : Up L) {k : Int} (h : hit L k = true) : ∃ x, L[pos L k]? = some x ∧ x.k = k ∧ x ∈ L ∧ getL L k = some x.t := by
  obtain ⟨x, _, h2, h3, _⟩ := hit_parts h
  have := List.mem_of_getElem? h3
  exact ⟨x, h3, h2, this, getL_some hu this h2⟩
theorem get_miss {L : List En} (hu : Up L) {k : Int} (h : hit L k = false) : getL L k = none := getL_none (hit_false hu h)
theorem drop_hit {L : List En} (hu : Up L) {k : Int} (h : hit L k = true) : dropL L k = out L k ∧ codeD L k = 0 := by
  obtain ⟨x, _, _, _, e⟩ := get_hit hu h
  unfold dropL codeD
  rw [e]; exact ⟨rfl, rfl⟩
theorem drop_miss {L : List En} (hu : Up L) {k : Int} (h : hit L k = false) : dropL L k = L ∧ codeD L k = 6 := by
  unfold dropL codeD
  rw [get_miss hu h]; exact ⟨rfl, rfl⟩
theorem put_hit {L : List En} (hu : Up L) {k : Int} (t : ByteArray) (h : hit L k = true) : putL L ⟨k, t⟩ = up L ⟨k, t⟩ ∧ codeP L k = 0 := by
  obtain ⟨x, _, _, _, e⟩ := get_hit hu h
  unfold putL codeP
  rw [e]; exact ⟨rfl, rfl⟩
theorem put_room {L : List En} {k : Int} (t : ByteArray) (h : L.length < 2000) : putL L ⟨k, t⟩ = up L ⟨k, t⟩ ∧ codeP L k = 0 := by
  unfold putL codeP
  rw [if_pos (.inr h), if_pos (.inr h)]; exact ⟨rfl, rfl⟩
theorem put_full {L : List En} (hu : Up L) {k : Int} (t : ByteArray) (h : hit L k = false) (hl : ¬ L.length < 2000) : putL L ⟨k, t⟩ = L ∧ codeP L k = 8 := by
  have e : ¬ ((getL L k).isSome = true ∨ L.length < 2000) := by rw [get_miss hu h]; simp; omega
  unfold putL codeP
  rw [if_neg e, if_neg e]; exact ⟨rfl, rfl⟩
theorem filter_lt {P Q : List En} {k : Int} (h1 : ∀ x ∈ P, x.k < k) (h2 : ∀ x ∈ Q, k ≤ x.k) : (P ++ Q).filter (fun x => decide (x.k < k)) = P := by
  rw [List.filter_append, filter_all (by intro x hx; simpa using h1 x hx), filter_none (by intro x hx; have := h2 x hx; simp; omega), List.append_nil]
theorem keys_up_miss {L : List En} (hu : Up L) {k : Int} (t : ByteArray) (h : hit L k = false) : keysOf (up L ⟨k, t⟩) = (keysOf L).take (pos L k) ++ k :: (keysOf L).drop (pos L k) := by
  have hn := hit_false hu h
  obtain ⟨P, Q, e, hl, h1, h2⟩ := pos_parts hu k
  have hq : ∀ x ∈ Q, k < x.k := fun x hx => by have := h2 x hx; have := hn x (by rw [e]; simp [hx]); omega
  have e2 : (P ++ Q).filter (fun x => decide (k < x.k)) = Q := by
    rw [List.filter_append, filter_none (by intro x hx; have := h1 x hx; simp; omega), filter_all (by intro x hx; simpa using hq x hx), List.nil_append]
  rw [← hl]
  unfold up keysOf
  rw [e]
  simp only
  rw [filter_lt h1 h2, e2, List.map_append, List.map_append, List.take_left' (by simp), List.drop_left' (by simp)]
  rfl
theorem keys_up_hit {L : List En} (hu : Up L) {k : Int} (t : ByteArray) (h : hit L k = true) : keysOf (up L ⟨k, t⟩) = keysOf L := by
  obtain ⟨x, e, hk, _, _⟩ := hit_parts h
  have hu2 := hu
  rw [e, Up, List.pairwise_append] at hu2
  have h1 := pos_take L k
  have h3 : ∀ y ∈ L.drop (pos L k + 1), k < y.k := fun y hy => by have := (List.pairwise_cons.1 hu2.2.1).1 y hy; omega
  generalize L.take (pos L k) = P at *
  generalize L.drop (pos L k + 1) = Q at *
  subst e
  have e2 : (P ++ x :: Q).filter (fun x => decide (k < x.k)) = Q := by
    rw [List.filter_append, filter_none (by intro x hx; have := h1 x hx; simp; omega), List.filter_cons, if_neg (by simp; omega), filter_all (by intro x hx; simpa using h3 x hx), List.nil_append]
  unfold up keysOf
  simp only
  rw [filter_lt h1 (by intro y hy; rcases List.mem_cons.1 hy with rfl | hy; omega; have := h3 y hy; omega), e2, List.map_append, List.map_append, List.map_cons, List.map_cons, hk]
theorem keys_out {L : List En} (hu : Up L) {k : Int} (h : hit L k = true) : keysOf (out L k) = (keysOf L).take (pos L k) ++ (keysOf L).drop (pos L k + 1) := by
  obtain ⟨x, e, hk, _, hp⟩ := hit_parts h
  have hu2 := hu
  rw [e, Up, List.pairwise_append] at hu2
  have h1 := pos_take L k
  have h3 : ∀ y ∈ L.drop (pos L k + 1), k < y.k := fun y hy => by have := (List.pairwise_cons.1 hu2.2.1).1 y hy; omega
  have e2 : out L k = L.take (pos L k) ++ L.drop (pos L k + 1) := by
    conv => lhs; rw [e]
    unfold out
    rw [List.filter_append, List.filter_cons, if_neg (by simp [hk]), filter_all (by intro y hy; have := h1 y hy; simp; omega), filter_all (by intro y hy; have := h3 y hy; simp; omega)]
  rw [e2]
  unfold keysOf
  rw [List.map_append, List.map_take, List.map_drop]
theorem mem_up {L : List En} {e y : En} (h : y ∈ up L e) : y = e ∨ (y ∈ L ∧ y.k ≠ e.k) := by
  unfold up at h
  rcases List.mem_append.1 h with h | h
  · have := List.mem_filter.1 h
    exact .inr ⟨this.1, by have := this.2; simp at this; omega⟩
  · rcases List.mem_cons.1 h with rfl | h
    · exact .inl rfl
    · have := List.mem_filter.1 h
      exact .inr ⟨this.1, by have := this.2; simp at this; omega⟩
theorem mem_out {L : List En} {k : Int} {y : En} (h : y ∈ out L k) : y ∈ L := (List.mem_filter.1 h).1
/-- What is not below a key is what stands from its place on. -/
theorem ge_drop {L : List En} (hu : Up L) (k : Int) : ge k L = L.drop (pos L k) := by
  obtain ⟨P, Q, e, hl, h1, h2⟩ := pos_parts hu k
  rw [← hl]
  unfold ge
  rw [e, List.filter_append, filter_none (by intro x hx; have := h1 x hx; simp; omega), filter_all (by intro x hx; simpa using h2 x hx), List.nil_append, List.drop_left]
end Go.Proofs.Ytlefcjgemojhpab.PTree
