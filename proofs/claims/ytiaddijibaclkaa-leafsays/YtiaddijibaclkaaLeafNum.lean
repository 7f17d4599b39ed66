/-
  Pages with slots in plain words (no program in it): a page's bytes, what is wrong with it, what Put, Get, Drop and Read make of it, and what follows: what is written is read, what is read is written so, what was put is there. No conditions but those that each theorem names.
-/
import Derived.Test.YtiaddijibaclkaaNum
namespace Go.Proofs.Ytiaddijibaclkaa.PLeaf
namespace Lf
open PCode

structure Sl where
  used : Bool
  text : ByteArray

abbrev By := List UInt8
def nob : ByteArray := ⟨#[]⟩
def none' : Sl := ⟨false, nob⟩

theorem size_list (s : ByteArray) : s.data.toList.length = s.size := by rw [Array.length_toList]; rfl
theorem bytes_eq {a b : ByteArray} (h : a.data.toList = b.data.toList) : a = b := by
  cases a; cases b; simp only [ByteArray.mk.injEq]; exact Array.ext' h
theorem size_nil {s : ByteArray} (h : s.size = 0) : s = nob := by
  apply bytes_eq
  have : s.data.toList.length = 0 := by rw [size_list]; exact h
  rw [List.eq_nil_of_length_eq_zero this]; rfl
theorem nob_size : nob.size = 0 := rfl

def headN (x : Sl) : Nat := if x.used then x.text.size + 1 else 0
def head (x : Sl) : By := Nb.natB (headN x)
def one (x : Sl) : By := head x ++ x.text.data.toList
def body (X : List Sl) : By := X.flatMap one
def bytes (X : List Sl) : By := Nb.natB X.length ++ body X
def size (X : List Sl) : Nat := (bytes X).length
def odd1 (x : Sl) : Bool := !x.used && decide (x.text.size ≠ 0)
def odd (X : List Sl) : Bool := X.any odd1
def ends (X : List Sl) : Bool := match X.getLast? with | some x => !x.used | none => false
def check (X : List Sl) : Nat := if 40 < X.length then 2 else if odd X then 4 else if ends X then 4 else if 512 < size X then 8 else 0

theorem one_len (x : Sl) : (one x).length = (head x).length + x.text.size := by unfold one; rw [List.length_append, size_list]
theorem body_nil : body [] = [] := rfl
theorem body_cons (x : Sl) (X : List Sl) : body (x :: X) = one x ++ body X := rfl
theorem body_app (X Y : List Sl) : body (X ++ Y) = body X ++ body Y := by simp [body]
theorem body_next {X : List Sl} {k : Nat} {x : Sl} (h : X[k]? = some x) : body (X.take (k + 1)) = body (X.take k) ++ one x := by
  obtain ⟨h1, h2⟩ := List.getElem?_eq_some_iff.1 h
  rw [List.take_succ_eq_append_getElem h1, body_app, h2]
  simp [body]
theorem size_eq (X : List Sl) : size X = (Nb.natB X.length).length + (body X).length := by unfold size bytes; rw [List.length_append]

theorem odd_false {X : List Sl} : odd X = false ↔ ∀ x ∈ X, odd1 x = false := by
  unfold odd; rw [List.any_eq_false]; simp
theorem odd1_false {x : Sl} (h : odd1 x = false) : x.used = true ∨ x.text = nob := by
  unfold odd1 at h
  cases hu : x.used with
  | true => exact .inl rfl
  | false =>
    rw [hu] at h
    simp only [Bool.not_false, Bool.true_and, decide_eq_false_iff_not, Decidable.not_not] at h
    exact .inr (size_nil h)

theorem ends_nil : ends [] = false := rfl
theorem ends_snoc (X : List Sl) (x : Sl) : ends (X ++ [x]) = !x.used := by unfold ends; simp
theorem ends_at {X : List Sl} {x : Sl} (h : X[X.length - 1]? = some x) : ends X = !x.used := by
  unfold ends
  rw [List.getLast?_eq_getElem?, h]

theorem check_ok {X : List Sl} (h : check X = 0) : X.length ≤ 40 ∧ odd X = false ∧ ends X = false ∧ size X ≤ 512 := by
  unfold check at h
  by_cases h1 : 40 < X.length
  · rw [if_pos h1] at h; omega
  · rw [if_neg h1] at h
    by_cases h2 : odd X = true
    · rw [if_pos h2] at h; omega
    · rw [if_neg h2] at h
      by_cases h3 : ends X = true
      · rw [if_pos h3] at h; omega
      · rw [if_neg h3] at h
        by_cases h4 : 512 < size X
        · rw [if_pos h4] at h; omega
        · exact ⟨by omega, by simpa using h2, by simpa using h3, by omega⟩
theorem check_mk {X : List Sl} (h1 : X.length ≤ 40) (h2 : odd X = false) (h3 : ends X = false) (h4 : size X ≤ 512) : check X = 0 := by
  unfold check
  rw [if_neg (by omega), if_neg (by simp [h2]), if_neg (by simp [h3]), if_neg (by omega)]
theorem check_le (X : List Sl) : check X ≤ 8 := by
  unfold check
  split
  · omega
  · split
    · omega
    · split
      · omega
      · split <;> omega

/-! ### reading -/
def getS (r : By) : Option (Sl × Nat) :=
  if (Nb.getN 0 0 r).2.2 = 0 then
    (if (Nb.getN 0 0 r).1 = 0 then some (none', (Nb.getN 0 0 r).2.1)
     else if r.length - (Nb.getN 0 0 r).2.1 < (Nb.getN 0 0 r).1 - 1 then none
     else some (⟨true, ⟨((r.drop (Nb.getN 0 0 r).2.1).take ((Nb.getN 0 0 r).1 - 1)).toArray⟩⟩, (Nb.getN 0 0 r).2.1 + ((Nb.getN 0 0 r).1 - 1)))
  else none
def readN : Nat → By → Option (List Sl × By)
  | 0, r => some ([], r)
  | n + 1, r => match getS r with
    | none => none
    | some (x, t) => match readN n (r.drop t) with
      | none => none
      | some (l, q) => some (x :: l, q)
def read (s : By) : Option (List Sl) :=
  if (Nb.getN 0 0 s).2.2 ≠ 0 ∨ 40 < (Nb.getN 0 0 s).1 ∨ 512 < s.length then none
  else match readN (Nb.getN 0 0 s).1 (s.drop (Nb.getN 0 0 s).2.1) with
    | none => none
    | some (l, q) => if q = [] ∧ ends l = false then some l else none

theorem getN_put (n : Nat) (more : By) (hn : n < 18446744073709551616) : Nb.getN 0 0 (Nb.natB n ++ more) = (n, (Nb.natB n).length, 0) := by
  have := Nb.get_put n 0 0 more (by omega) (by simpa using hn) (.inl rfl)
  simpa using this
theorem getN_only {s : By} {x k : Nat} (h : Nb.getN 0 0 s = (x, k, 0)) : Nb.natB x = s.take k ∧ 0 < k ∧ k ≤ s.length := by
  obtain ⟨m, h1, h2, h3, h4, _⟩ := Nb.get_only s 0 0 x k h
  have : x = m := by simpa using h1
  subst this
  exact ⟨by simpa using h2, h3, by simpa using h4⟩

theorem mk_list (l : By) : (⟨l.toArray⟩ : ByteArray).data.toList = l := by simp
theorem mk_size (l : By) : (⟨l.toArray⟩ : ByteArray).size = l.length := by rw [← size_list]

theorem getS_one (x : Sl) (more : By) (h : odd1 x = false) (hs : x.text.size + 1 < 18446744073709551616) : getS (one x ++ more) = some (x, (one x).length) := by
  have hh : headN x < 18446744073709551616 := by unfold headN; split <;> omega
  have e : Nb.getN 0 0 (one x ++ more) = (headN x, (head x).length, 0) := by
    unfold one head
    rw [List.append_assoc]
    exact getN_put (headN x) _ hh
  unfold getS
  rw [e]
  simp only [if_true]
  rcases odd1_false h with hu | ht
  · have hn : headN x = x.text.size + 1 := by unfold headN; rw [if_pos hu]
    have el : (one x ++ more).drop (head x).length = x.text.data.toList ++ more := by
      unfold one
      rw [List.append_assoc, List.drop_left]
    rw [if_neg (by omega), if_neg (by rw [List.length_append, one_len, hn]; omega), el, hn, Nat.add_sub_cancel, List.take_append_of_le_length (by rw [size_list]; omega), List.take_of_length_le (by rw [size_list]; omega), one_len]
    congr 1
    simp only [Prod.mk.injEq, and_true]
    cases x
    simp only at hu
    subst hu
    exact congrArg (Sl.mk true) (bytes_eq (mk_list _))
  · cases hu : x.used with
    | true =>
      have hn : headN x = 1 := by unfold headN; rw [if_pos hu, ht]; rfl
      rw [if_neg (by omega), if_neg (by rw [hn]; omega), one_len, hn, ht]
      congr 1
      simp only [Prod.mk.injEq]
      refine ⟨?_, by rw [nob_size]⟩
      cases x
      simp only at hu ht
      subst hu; subst ht
      simp [nob]
    | false =>
      have hn : headN x = 0 := by unfold headN; rw [hu]; rfl
      rw [if_pos hn, one_len, ht]
      congr 1
      simp only [Prod.mk.injEq]
      refine ⟨?_, by rw [nob_size]; rfl⟩
      cases x
      simp only at hu ht
      subst hu; subst ht
      rfl

theorem getS_only {r : By} {x : Sl} {t : Nat} (h : getS r = some (x, t)) : one x = r.take t ∧ t ≤ r.length ∧ odd1 x = false := by
  obtain ⟨n, k, e, hG⟩ : ∃ n k e, Nb.getN 0 0 r = (n, k, e) := ⟨_, _, _, rfl⟩
  unfold getS at h
  rw [hG] at h
  simp only at h
  by_cases he : e = 0
  · subst he
    rw [if_pos rfl] at h
    obtain ⟨h1, h2, h3⟩ := getN_only hG
    by_cases hn : n = 0
    · subst hn
      rw [if_pos rfl] at h
      simp only [Option.some.injEq, Prod.mk.injEq] at h
      obtain ⟨rfl, rfl⟩ := h
      refine ⟨?_, h3, rfl⟩
      rw [← h1]
      show Nb.natB 0 ++ [] = _
      rw [List.append_nil]
    · rw [if_neg hn] at h
      by_cases hs : r.length - k < n - 1
      · rw [if_pos hs] at h; cases h
      · rw [if_neg hs] at h
        simp only [Option.some.injEq, Prod.mk.injEq] at h
        obtain ⟨rfl, rfl⟩ := h
        have hl : ((r.drop k).take (n - 1)).length = n - 1 := by rw [List.length_take, List.length_drop]; omega
        refine ⟨?_, by omega, rfl⟩
        show Nb.natB ((⟨((r.drop k).take (n - 1)).toArray⟩ : ByteArray).size + 1) ++ (⟨((r.drop k).take (n - 1)).toArray⟩ : ByteArray).data.toList = _
        rw [mk_size, hl, mk_list, Nat.sub_add_cancel (by omega), h1, List.take_add]
  · rw [if_neg he] at h; cases h

theorem readN_body : ∀ (X : List Sl) (more : By), odd X = false → (∀ x ∈ X, x.text.size + 1 < 18446744073709551616) → readN X.length (body X ++ more) = some (X, more)
  | [], more, _, _ => rfl
  | x :: X, more, h, hs => by
    have h1 := odd_false.1 h
    have e := getS_one x (body X ++ more) (h1 x (by simp)) (hs x (by simp))
    have ih := readN_body X more (odd_false.2 fun y hy => h1 y (by simp [hy])) (fun y hy => hs y (by simp [hy]))
    show readN (X.length + 1) _ = _
    rw [readN, body_cons, List.append_assoc, e]
    simp only
    rw [List.drop_left, ih]

theorem readN_only : ∀ (n : Nat) (r : By) (l : List Sl) (q : By), readN n r = some (l, q) → l.length = n ∧ r = body l ++ q ∧ odd l = false
  | 0, r, l, q, h => by
    simp only [readN, Option.some.injEq, Prod.mk.injEq] at h
    obtain ⟨rfl, rfl⟩ := h
    exact ⟨rfl, rfl, rfl⟩
  | n + 1, r, l, q, h => by
    rw [readN] at h
    cases hg : getS r with
    | none => rw [hg] at h; cases h
    | some xt =>
      obtain ⟨x, t⟩ := xt
      rw [hg] at h
      simp only at h
      cases hr : readN n (r.drop t) with
      | none => rw [hr] at h; cases h
      | some lq =>
        obtain ⟨l', q'⟩ := lq
        rw [hr] at h
        simp only [Option.some.injEq, Prod.mk.injEq] at h
        obtain ⟨rfl, rfl⟩ := h
        obtain ⟨h1, h2, h3⟩ := readN_only n _ _ _ hr
        obtain ⟨g1, g2, g3⟩ := getS_only hg
        refine ⟨by simp [h1], ?_, ?_⟩
        · rw [body_cons, g1, List.append_assoc, ← h2, List.take_append_drop]
        · have := odd_false.1 h3
          apply odd_false.2
          intro y hy
          rcases List.mem_cons.1 hy with e | e
          · rw [e]; exact g3
          · exact this y e

/-- What is written is read. -/
theorem read_bytes {X : List Sl} (h : check X = 0) : read (bytes X) = some X := by
  obtain ⟨h1, h2, h3, h4⟩ := check_ok h
  have e : Nb.getN 0 0 (bytes X) = (X.length, (Nb.natB X.length).length, 0) := getN_put X.length _ (by omega)
  unfold read
  rw [e]
  simp only
  have hsz : ∀ x ∈ X, x.text.size + 1 < 18446744073709551616 := by
    intro x hx
    have hle : x.text.size ≤ (body X).length := by
      obtain ⟨A, B, rfl⟩ := List.append_of_mem hx
      rw [body_app, body_cons, List.length_append, List.length_append, one_len]
      omega
    rw [size_eq] at h4
    omega
  have hr := readN_body X [] h2 hsz
  rw [List.append_nil] at hr
  rw [if_neg (by unfold size at h4; omega)]
  unfold bytes
  rw [List.drop_left, hr]
  simp only [h3, and_self, if_true]

/-- What is read is written so. -/
theorem read_only {s : By} {X : List Sl} (h : read s = some X) : bytes X = s ∧ check X = 0 := by
  obtain ⟨n, k, e, hG⟩ : ∃ n k e, Nb.getN 0 0 s = (n, k, e) := ⟨_, _, _, rfl⟩
  unfold read at h
  rw [hG] at h
  simp only at h
  by_cases hc : e ≠ 0 ∨ 40 < n ∨ 512 < s.length
  · rw [if_pos hc] at h; cases h
  · rw [if_neg hc] at h
    cases hr : readN n (s.drop k) with
    | none => rw [hr] at h; cases h
    | some lq =>
      obtain ⟨l, q⟩ := lq
      rw [hr] at h
      simp only at h
      by_cases hq : q = [] ∧ ends l = false
      · rw [if_pos hq] at h
        simp only [Option.some.injEq] at h
        subst h
        obtain ⟨rfl, hE⟩ := hq
        have he : e = 0 := by omega
        subst he
        obtain ⟨g1, g2, g3⟩ := getN_only hG
        obtain ⟨h1, h2, h3⟩ := readN_only _ _ _ _ hr
        rw [List.append_nil] at h2
        have hb : bytes l = s := by
          unfold bytes
          rw [h1, g1, ← h2, List.take_append_drop]
        exact ⟨hb, check_mk (by omega) h3 hE (by unfold size; rw [hb]; omega)⟩
      · rw [if_neg hq] at h; cases h

end Lf
end Go.Proofs.Ytiaddijibaclkaa.PLeaf
