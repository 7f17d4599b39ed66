/-
  Pages with slots in plain words, second part: the first slot that is free, Put, Get and Drop, the room they take (no program in it).
-/
import Derived.Test.YtiaddijibaclkaaLeafNum
namespace Go.Proofs.Ytiaddijibaclkaa.PLeaf
namespace Lf
open PCode

def first (X : List Sl) : Nat := X.findIdx fun x => !x.used
def room (X : List Sl) : List Sl := if first X = X.length then X ++ [none'] else X
def putX (X : List Sl) (t : ByteArray) : List Sl := (room X).set (first X) ⟨true, t⟩
def trim (X : List Sl) : List Sl := (X.reverse.dropWhile fun x => !x.used).reverse
def dropX (X : List Sl) (k : Nat) : List Sl := trim (X.set k none')

def put (X : List Sl) (t : ByteArray) : List Sl × Nat × Nat :=
  if check X = 0 then (if check (putX X t) = 0 then (putX X t, first X, 0) else ([], 0, 8)) else ([], 0, check X)
def hit (X : List Sl) (k : Int) : Bool := decide (0 ≤ k) && (match X[k.toNat]? with | some x => x.used | none => false)
def textAt (X : List Sl) (k : Nat) : ByteArray := match X[k]? with | some x => x.text | none => nob
def get (X : List Sl) (k : Int) : ByteArray × Nat :=
  if check X = 0 then (if hit X k then (textAt X k.toNat, 0) else (nob, 6)) else (nob, check X)
def drop (X : List Sl) (k : Int) : List Sl × Nat := if (get X k).2 = 0 then (dropX X k.toNat, 0) else ([], (get X k).2)

theorem first_le (X : List Sl) : first X ≤ X.length := List.findIdx_le_length
theorem first_at {X : List Sl} (h : first X < X.length) : ∃ x, X[first X]? = some x ∧ x.used = false := by
  refine ⟨X[first X], List.getElem?_eq_getElem h, ?_⟩
  have := List.findIdx_getElem (p := fun x : Sl => !x.used) (xs := X) (w := h)
  have e : (!(X[first X]).used) = true := this
  simpa using e
theorem first_before {X : List Sl} {j : Nat} {x : Sl} (h : j < first X) (hx : X[j]? = some x) : x.used = true := by
  obtain ⟨h1, h2⟩ := List.getElem?_eq_some_iff.1 hx
  have := List.not_of_lt_findIdx (p := fun x : Sl => !x.used) (xs := X) (i := j) h
  rw [h2] at this
  simpa using this
theorem first_of {X : List Sl} {k : Nat} (hk : k ≤ X.length) (hb : ∀ j x, j < k → X[j]? = some x → x.used = true) (ha : ∀ x, X[k]? = some x → x.used = false) : first X = k := by
  have h1 : ¬ first X < k := by
    intro h
    obtain ⟨x, hx, hu⟩ := first_at (X := X) (by omega)
    have := hb _ x h hx
    rw [hu] at this
    cases this
  have h2 : ¬ k < first X := by
    intro h
    have hl : k < X.length := Nat.lt_of_lt_of_le h (first_le X)
    have := first_before h (List.getElem?_eq_getElem hl)
    rw [ha _ (List.getElem?_eq_getElem hl)] at this
    cases this
  omega
theorem first_none {X : List Sl} (hodd : odd X = false) (h : first X < X.length) : X[first X]? = some none' := by
  obtain ⟨x, hx, hu⟩ := first_at h
  have hm : x ∈ X := List.mem_of_getElem? hx
  rcases odd1_false (odd_false.1 hodd x hm) with e | e
  · rw [hu] at e; cases e
  · rw [hx]
    cases x
    simp only at hu e
    subst hu; subst e
    rfl

theorem room_len (X : List Sl) : (room X).length = if first X = X.length then X.length + 1 else X.length := by
  unfold room
  split <;> simp
theorem room_lt (X : List Sl) : first X < (room X).length := by
  rw [room_len]
  have := first_le X
  split <;> omega
theorem putX_len (X : List Sl) (t : ByteArray) : (putX X t).length = (room X).length := by unfold putX; rw [List.length_set]
theorem putX_at (X : List Sl) (t : ByteArray) : (putX X t)[first X]? = some ⟨true, t⟩ := by
  unfold putX
  rw [List.getElem?_set_self (room_lt X)]
theorem putX_else (X : List Sl) (t : ByteArray) (j : Nat) (h : j ≠ first X) : (putX X t)[j]? = X[j]? := by
  unfold putX
  rw [List.getElem?_set_ne (Ne.symm h)]
  unfold room
  split
  · rename_i he
    by_cases hj : j < X.length
    · rw [List.getElem?_append_left hj]
    · rw [List.getElem?_eq_none (by simp; omega), List.getElem?_eq_none (by omega)]
  · rfl

theorem mem_set {X : List Sl} {k : Nat} {x y : Sl} (h : y ∈ X.set k x) : y ∈ X ∨ y = x := List.mem_or_eq_of_mem_set h
theorem putX_odd {X : List Sl} (t : ByteArray) (h : odd X = false) : odd (putX X t) = false := by
  apply odd_false.2
  intro y hy
  unfold putX at hy
  rcases mem_set hy with hy | rfl
  · unfold room at hy
    split at hy
    · rcases List.mem_append.1 hy with hy | hy
      · exact odd_false.1 h y hy
      · rw [List.mem_singleton.1 hy]; rfl
    · exact odd_false.1 h y hy
  · rfl
theorem ends_false {X : List Sl} (h : ∀ x, X[X.length - 1]? = some x → x.used = true) : ends X = false := by
  cases hx : X[X.length - 1]? with
  | none =>
    have : X.length ≤ X.length - 1 := by simpa using hx
    have : X = [] := List.eq_nil_of_length_eq_zero (by omega)
    subst this; rfl
  | some x => rw [ends_at hx, h x hx]; rfl
theorem ends_used {X : List Sl} (h : ends X = false) {x : Sl} (hx : X[X.length - 1]? = some x) : x.used = true := by
  rw [ends_at hx] at h
  simpa using h
theorem putX_ends {X : List Sl} (t : ByteArray) (h : ends X = false) : ends (putX X t) = false := by
  apply ends_false
  intro x hx
  by_cases e : (putX X t).length - 1 = first X
  · rw [e, putX_at] at hx
    cases hx; rfl
  · rw [putX_else X t _ e] at hx
    rw [putX_len, room_len] at hx e
    by_cases he : first X = X.length
    · rw [if_pos he] at e; omega
    · rw [if_neg he] at hx
      exact ends_used h hx
theorem putX_check {X : List Sl} (t : ByteArray) (h : check X = 0) : check (putX X t) = 0 ↔ (putX X t).length ≤ 40 ∧ size (putX X t) ≤ 512 := by
  obtain ⟨h1, h2, h3, h4⟩ := check_ok h
  constructor
  · intro e
    have := check_ok e
    exact ⟨this.1, this.2.2.2⟩
  · rintro ⟨a, b⟩
    exact check_mk a (putX_odd t h2) (putX_ends t h3) b

/-! ### trim -/
theorem trim_snoc (X : List Sl) (x : Sl) : trim (X ++ [x]) = if x.used then X ++ [x] else trim X := by
  unfold trim
  rw [List.reverse_append, List.reverse_singleton, List.singleton_append, List.dropWhile_cons]
  cases x.used <;> simp
theorem trim_same {X : List Sl} (h : ends X = false) : trim X = X := by
  rcases List.eq_nil_or_concat X with rfl | ⟨Y, x, rfl⟩
  · rfl
  · rw [List.concat_eq_append] at *
    rw [ends_snoc] at h
    rw [trim_snoc, if_pos (by simpa using h)]
theorem trim_less {X : List Sl} (h : ends X = true) : trim (X.take (X.length - 1)) = trim X ∧ 0 < X.length := by
  rcases List.eq_nil_or_concat X with rfl | ⟨Y, x, rfl⟩
  · cases h
  · rw [List.concat_eq_append] at *
    rw [ends_snoc] at h
    have hx : x.used = false := by simpa using h
    rw [trim_snoc, hx, if_neg (by simp)]
    simp
theorem trim_len (X : List Sl) : (trim X).length ≤ X.length := by
  unfold trim
  rw [List.length_reverse]
  have := (List.dropWhile_sublist (l := X.reverse) (fun x : Sl => !x.used)).length_le
  simpa using this

/-! ### what was put is there -/
theorem drop_put {X : List Sl} (t : ByteArray) (h : check X = 0) : dropX (putX X t) (first X) = X := by
  obtain ⟨h1, h2, h3, h4⟩ := check_ok h
  unfold dropX putX
  rw [List.set_set]
  unfold room
  split
  · rename_i he
    rw [he, List.set_append_right _ _ (Nat.le_refl _), Nat.sub_self, List.set_cons_zero, trim_snoc, if_neg (by simp [none']), trim_same h3]
  · rename_i he
    have hlt : first X < X.length := by have := first_le X; omega
    have e : X.set (first X) none' = X := by
      obtain ⟨g1, g2⟩ := List.getElem?_eq_some_iff.1 (first_none h2 hlt)
      rw [← g2, List.set_getElem_self]
    rw [e, trim_same h3]
theorem hit_at {X : List Sl} {k : Nat} {x : Sl} (h : X[k]? = some x) : hit X (k : Int) = x.used := by
  unfold hit
  rw [Int.toNat_natCast, h]
  simp
theorem hit_none {X : List Sl} {k : Nat} (h : X[k]? = none) : hit X (k : Int) = false := by
  unfold hit
  rw [Int.toNat_natCast, h]
  simp
theorem hit_first (X : List Sl) : hit X (first X : Int) = false := by
  by_cases h : first X < X.length
  · obtain ⟨x, hx, hu⟩ := first_at h
    rw [hit_at hx, hu]
  · exact hit_none (List.getElem?_eq_none (by omega))
theorem textAt_at {X : List Sl} {k : Nat} {x : Sl} (h : X[k]? = some x) : textAt X k = x.text := by unfold textAt; rw [h]
theorem get_put {X : List Sl} {t : ByteArray} (h : check (putX X t) = 0) : get (putX X t) (first X : Int) = (t, 0) := by
  unfold get
  rw [if_pos h, hit_at (putX_at X t), if_pos rfl, Int.toNat_natCast, textAt_at (putX_at X t)]
theorem get_first {X : List Sl} (h : check X = 0) : get X (first X : Int) = (nob, 6) := by
  unfold get
  rw [if_pos h, hit_first, if_neg (by simp)]
theorem get_else {X : List Sl} {t : ByteArray} {k : Int} (h : check X = 0) (h' : check (putX X t) = 0) (hk : k ≠ (first X : Int)) : get (putX X t) k = get X k := by
  unfold get
  rw [if_pos h, if_pos h']
  by_cases h0 : 0 ≤ k
  · have e : (putX X t)[k.toNat]? = X[k.toNat]? := putX_else X t _ (by omega)
    have e1 : hit (putX X t) k = hit X k := by unfold hit; rw [e]
    have e2 : textAt (putX X t) k.toNat = textAt X k.toNat := by unfold textAt; rw [e]
    rw [e1, e2]
  · have e1 : ∀ Y, hit Y k = false := fun Y => by unfold hit; simp [h0]
    simp only [e1, Bool.false_eq_true, if_false]
theorem drop_of_put {X : List Sl} {t : ByteArray} (h : check X = 0) (h' : check (putX X t) = 0) : drop (putX X t) (first X : Int) = (X, 0) := by
  unfold drop
  rw [get_put h', if_pos rfl, Int.toNat_natCast, drop_put t h]

/-! ### room -/
theorem body_set : ∀ (X : List Sl) (k : Nat) (x y : Sl), X[k]? = some x → (body (X.set k y)).length + (one x).length = (body X).length + (one y).length
  | [], k, x, y, h => by simp at h
  | z :: X, 0, x, y, h => by
    simp at h
    subst h
    rw [List.set_cons_zero, body_cons, body_cons, List.length_append, List.length_append]
    omega
  | z :: X, k + 1, x, y, h => by
    have ih := body_set X k x y (by simpa using h)
    rw [List.set_cons_succ, body_cons, body_cons, List.length_append, List.length_append]
    omega
theorem one_none : (one none').length = 1 := rfl
theorem one_true (t : ByteArray) : (one ⟨true, t⟩).length = (Nb.natB (t.size + 1)).length + t.size := by rw [one_len]; rfl
theorem head_one (t : ByteArray) (h : t.size ≤ 16382) : 1 ≤ (Nb.natB (t.size + 1)).length ∧ (Nb.natB (t.size + 1)).length ≤ 2 :=
  ⟨Nb.natB_pos _, Nb.natB_len 1 _ (by omega)⟩
theorem count_one {n : Nat} (h : n < 128) : (Nb.natB n).length = 1 := by rw [Nb.natB_lt h]; rfl
/-- How many bytes a page has with a text more. -/
theorem putX_size {X : List Sl} (t : ByteArray) (h : check X = 0) :
    size (putX X t) + (if first X = X.length then 0 else 1) = size X + (Nb.natB (t.size + 1)).length + t.size := by
  obtain ⟨h1, h2, h3, h4⟩ := check_ok h
  rw [size_eq, size_eq, putX_len, room_len]
  unfold putX room
  by_cases he : first X = X.length
  · rw [if_pos he, if_pos he, if_pos he, count_one (by omega), count_one (by omega)]
    have e : (X ++ [none'])[first X]? = some none' := by rw [he]; simp
    have := body_set (X ++ [none']) (first X) none' ⟨true, t⟩ e
    rw [body_app, List.length_append, one_true] at this
    have e1 : (body [none']).length = 1 := rfl
    rw [one_none] at this
    omega
  · have hlt : first X < X.length := by have := first_le X; omega
    rw [if_neg he, if_neg he, if_neg he, count_one (by omega)]
    have := body_set X (first X) none' ⟨true, t⟩ (first_none h2 hlt)
    rw [one_none, one_true] at this
    omega
theorem text_le (X : List Sl) : ∀ x ∈ X, x.text.size ≤ (body X).length := by
  intro x hx
  obtain ⟨A, B, rfl⟩ := List.append_of_mem hx
  rw [body_app, body_cons, List.length_append, List.length_append, one_len]
  omega
theorem putX_big {X : List Sl} {t : ByteArray} (h : check (putX X t) = 0) : t.size ≤ 512 := by
  obtain ⟨_, _, _, h4⟩ := check_ok h
  have hm : (⟨true, t⟩ : Sl) ∈ putX X t := List.mem_of_getElem? (putX_at X t)
  have := text_le _ _ hm
  rw [size_eq] at h4
  simp only at this
  omega
/-- Where a text finds no room. -/
theorem room_none {X : List Sl} {t : ByteArray} (h : check X = 0) (h' : check (putX X t) ≠ 0) : 512 ≤ t.size + 2 + size X ∨ X.length = 40 := by
  obtain ⟨h1, h2, h3, h4⟩ := check_ok h
  have hs := putX_size t h
  by_cases hl : (putX X t).length ≤ 40
  · have : ¬ size (putX X t) ≤ 512 := fun e => h' ((putX_check t h).2 ⟨hl, e⟩)
    left
    by_cases ht : t.size ≤ 16382
    · have := head_one t ht
      split at hs <;> omega
    · omega
  · right
    rw [putX_len, room_len] at hl
    split at hl <;> omega
/-- Where it finds room. -/
theorem room_some {X : List Sl} {t : ByteArray} (h : check X = 0) (h' : check (putX X t) = 0) : size X + t.size ≤ size (putX X t) ∧ size (putX X t) ≤ size X + t.size + 2 ∧ size (putX X t) ≤ 512 ∧ size X ≤ 512 := by
  have hs := putX_size t h
  have hb := putX_big h'
  have := head_one t (by omega)
  obtain ⟨_, _, _, h4⟩ := check_ok h'
  obtain ⟨_, _, _, h5⟩ := check_ok h
  split at hs <;> omega

end Lf
end Go.Proofs.Ytiaddijibaclkaa.PLeaf
