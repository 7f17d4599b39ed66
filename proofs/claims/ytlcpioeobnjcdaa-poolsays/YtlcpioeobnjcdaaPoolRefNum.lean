/- The reference's pool in plain words: pages with the times at which they came; which one goes; and the map that holds them. -/
import Derived.Test.YtlcpioeobnjcdaaPoolRules
import Derived.Maps.RangeWalk
import Derived.Maps.OwnSet
namespace Go.Proofs.Ytlcpioeobnjcdaa.PPool
open Go Go.RowKit Go.Maps
set_option maxRecDepth 100000

/-- The map of pages and times. -/
structure Reads (D : DataW Unit) (L : List (Int × Nat)) : Prop where
  has : ∀ x : Int, Maps.has D (.int .i64 x) = decide (x ∈ L.map Prod.fst)
  at_ : ∀ x t, (x, t) ∈ L → ∀ z, D.atKey (.int .i64 x) z = .lit (.int .i64 ((t : Nat) : Int))
  size : Maps.size D = L.length
  tidy : Tidy D
theorem lit_ne {x y : Int} (h : x ≠ y) : (Lit.int .i64 x) ≠ .int .i64 y := fun e => h (by injection e)
theorem Reads.empty : Reads (.map []) [] := ⟨fun _ => rfl, fun _ _ h => by simp at h, rfl, tidy_empty⟩
theorem key_lit (x : Int) : WideAt.IsKeyLit (.int .i64 x) := by trivial
theorem Reads.add {D : DataW Unit} {L : List (Int × Nat)} (h : Reads D L) {x : Int} (hx : x ∉ L.map Prod.fst) (t : Nat) : Reads (D.put (.int .i64 x) (.lit (.int .i64 ((t : Nat) : Int)))) (L ++ [(x, t)]) := by
  refine ⟨fun y => ?_, fun y u hy z => ?_, ?_, h.tidy.put (key_lit x) _⟩
  · by_cases e : y = x
    · subst e
      rw [has_put_same h.tidy.isMap (key_lit y)]
      simp
    · rw [has_put_other (lit_ne e), h.has y]
      simp [e]
  · rcases List.mem_append.1 hy with hy | hy
    · have e : y ≠ x := fun e => hx (by rw [← e]; exact List.mem_map.2 ⟨(y, u), hy, rfl⟩)
      rw [atKey_put_other (lit_ne e)]
      exact h.at_ y u hy z
    · simp at hy
      obtain ⟨rfl, rfl⟩ := hy
      exact atKey_put_same h.tidy.isMap (key_lit _) _ _
  · have : Maps.has D (.int .i64 x) = false := by rw [h.has x]; simpa using hx
    rw [size_put h.tidy, this, h.size]
    simp
theorem mem_erase {L : List (Int × Nat)} (hn : (L.map Prod.fst).Nodup) {k : Nat} (hk : k < L.length) : L[k].1 ∉ (L.eraseIdx k).map Prod.fst ∧ (∀ y, y ≠ L[k].1 → (y ∈ (L.eraseIdx k).map Prod.fst ↔ y ∈ L.map Prod.fst)) := by
  have e : L = L.take k ++ L[k] :: L.drop (k + 1) := by rw [← List.drop_eq_getElem_cons hk, List.take_append_drop]
  have e2 : L.eraseIdx k = L.take k ++ L.drop (k + 1) := List.eraseIdx_eq_take_drop_succ L k
  generalize L[k] = q at e ⊢
  generalize L.take k = A at e e2
  generalize L.drop (k + 1) = B at e e2
  rw [e2]
  subst e
  rw [List.map_append, List.map_cons] at hn
  have hp := List.nodup_cons.1 (List.perm_middle.nodup_iff.1 hn)
  refine ⟨by rw [List.map_append]; exact hp.1, fun y hy => ?_⟩
  simp only [List.map_append, List.mem_append, List.map_cons, List.mem_cons]
  constructor
  · rintro (h | h)
    · exact .inl h
    · exact .inr (.inr h)
  · rintro (h | h | h)
    · exact .inl h
    · exact absurd h hy
    · exact .inr h
theorem Reads.del {D : DataW Unit} {L : List (Int × Nat)} (h : Reads D L) (hn : (L.map Prod.fst).Nodup) {k : Nat} (hk : k < L.length) : Reads (D.del (.int .i64 L[k].1)) (L.eraseIdx k) := by
  obtain ⟨m1, m2⟩ := mem_erase hn hk
  refine ⟨fun y => ?_, fun y u hy z => ?_, ?_, h.tidy.del _⟩
  · by_cases e : y = L[k].1
    · subst e
      rw [has_del_same]
      simp only [m1, decide_false]
    · rw [has_del_other (lit_ne e), h.has y]
      simp only [m2 y e]
  · have e : y ≠ L[k].1 := fun e => m1 (by rw [← e]; exact List.mem_map.2 ⟨(y, u), hy, rfl⟩)
    rw [atKey_del_other (lit_ne e)]
    exact h.at_ y u (List.mem_of_mem_eraseIdx hy) z
  · have hh : Maps.has D (.int .i64 L[k].1) = true := by rw [h.has]; simp only [decide_eq_true_eq]; exact List.mem_map.2 ⟨L[k], List.getElem_mem hk, rfl⟩
    have := size_del (k := .int .i64 L[k].1) h.tidy
    rw [hh, h.size] at this
    rw [List.length_eraseIdx_of_lt hk]
    simp only [if_true] at this
    omega
/-- A page that is there is laid in anew. -/
theorem Reads.again {D : DataW Unit} {L : List (Int × Nat)} (h : Reads D L) (hn : (L.map Prod.fst).Nodup) {k : Nat} (hk : k < L.length) (t : Nat) : Reads (D.put (.int .i64 L[k].1) (.lit (.int .i64 ((t : Nat) : Int)))) (L.eraseIdx k ++ [(L[k].1, t)]) := by
  obtain ⟨m1, m2⟩ := mem_erase hn hk
  refine ⟨fun y => ?_, fun y u hy z => ?_, ?_, h.tidy.put (key_lit _) _⟩
  · by_cases e : y = L[k].1
    · subst e
      rw [has_put_same h.tidy.isMap (key_lit _)]
      simp
    · rw [has_put_other (lit_ne e), h.has y]
      have : y ∈ (L.eraseIdx k ++ [(L[k].1, t)]).map Prod.fst ↔ y ∈ L.map Prod.fst := by
        rw [List.map_append, List.mem_append, m2 y e]
        simp [e]
      simp only [this]
  · rcases List.mem_append.1 hy with hy | hy
    · have e : y ≠ L[k].1 := fun e => m1 (by rw [← e]; exact List.mem_map.2 ⟨(y, u), hy, rfl⟩)
      rw [atKey_put_other (lit_ne e)]
      exact h.at_ y u (List.mem_of_mem_eraseIdx hy) z
    · simp at hy
      obtain ⟨rfl, rfl⟩ := hy
      exact atKey_put_same h.tidy.isMap (key_lit _) _ _
  · have hh : Maps.has D (.int .i64 L[k].1) = true := by rw [h.has]; simp only [decide_eq_true_eq]; exact List.mem_map.2 ⟨L[k], List.getElem_mem hk, rfl⟩
    rw [size_put h.tidy, hh, h.size, List.length_append, List.length_eraseIdx_of_lt hk]
    simp
    omega

/-! ### Which one goes -/
def key0 (rule : Int) (rest : List Int) (p : Int) : Int := if rule = 2 then -((rest.idxOf p : Int) + 1) else 0
/-- The place of the one that goes. -/
def lv (rule : Int) (P rest : List Int) : Nat := if rule = 2 then Pl.fm P rest else 0
structure Lead (rule : Int) (rest : List Int) (L : List (Int × Nat)) (left : Lit → Bool) (f : Bool) (o k0 k1 : Int) : Prop where
  none : f = true → ∀ x t, (x, t) ∈ L → left (.int .i64 x) = true
  some : f = false → ∃ t : Nat, (o, t) ∈ L ∧ k0 = key0 rule rest o ∧ k1 = (t : Int) ∧ left (.int .i64 o) = false ∧ ∀ x (u : Nat), (x, u) ∈ L → left (.int .i64 x) = false → k0 < key0 rule rest x ∨ (k0 = key0 rule rest x ∧ k1 ≤ (u : Int))
theorem Lead.start {rule : Int} {rest : List Int} {L : List (Int × Nat)} {D : DataW Unit} (h : Reads D L) (o k0 k1 : Int) : Lead rule rest L (Maps.has D) true o k0 k1 :=
  ⟨fun _ x t hx => by rw [h.has x]; simpa using ⟨t, hx⟩, fun e => by cases e⟩
theorem left_same {left : Lit → Bool} {x y : Int} : (left (.int .i64 y) && !(Lit.int .i64 y).sameKey (.int .i64 x)) = (left (.int .i64 y) && decide (y ≠ x)) := by
  by_cases e : y = x
  · subst e
    rw [WideAt.sameKey_self (key_lit y)]
    simp
  · rw [sameKey_ne (lit_ne e)]
    simp [e]
theorem one_time {L : List (Int × Nat)} (hn : (L.map Prod.fst).Nodup) {x : Int} {t u : Nat} (h1 : (x, t) ∈ L) (h2 : (x, u) ∈ L) : t = u := by
  induction L with
  | nil => simp at h1
  | cons p L ih =>
    rw [List.map_cons, List.nodup_cons] at hn
    rcases List.mem_cons.1 h1 with e1 | e1 <;> rcases List.mem_cons.1 h2 with e2 | e2
    · rw [← e1] at e2; injection e2 with _ e; exact e.symm
    · exact absurd (List.mem_map.2 ⟨(x, u), e2, rfl⟩) (by rw [← e1] at hn; exact hn.1)
    · exact absurd (List.mem_map.2 ⟨(x, t), e1, rfl⟩) (by rw [← e2] at hn; exact hn.1)
    · exact ih hn.2 e1 e2
theorem Lead.turn {rule : Int} {rest : List Int} {L : List (Int × Nat)} {left : Lit → Bool} {f : Bool} {o k0 k1 : Int} (h : Lead rule rest L left f o k0 k1) (hn : (L.map Prod.fst).Nodup) {x : Int} {t : Nat} (hx : (x, t) ∈ L)
    (hs : f = true ∨ key0 rule rest x < k0 ∨ (key0 rule rest x = k0 ∧ (t : Int) < k1)) : Lead rule rest L (fun z => left z && !z.sameKey (.int .i64 x)) false x (key0 rule rest x) (t : Int) := by
  refine ⟨fun e => (by cases e), fun _ => ⟨t, hx, rfl, rfl, by rw [left_same]; simp, fun y u hy hl => ?_⟩⟩
  rw [left_same] at hl
  by_cases e : y = x
  · subst e
    have := one_time hn hx hy
    subst this
    exact .inr ⟨rfl, Int.le_refl _⟩
  · simp only [ne_eq, e, not_false_eq_true, decide_true, Bool.and_true] at hl
    cases hf : f with
    | true => have := h.none hf y u hy; rw [hl] at this; cases this
    | false =>
      obtain ⟨t', _, _, _, _, hm⟩ := h.some hf
      rcases hs with e1 | e1 | ⟨e1, e2⟩
      · rw [hf] at e1; cases e1
      · rcases hm y u hy hl with e3 | ⟨e3, _⟩
        · left; omega
        · left; omega
      · rcases hm y u hy hl with e3 | ⟨e3, e4⟩
        · left; omega
        · right; omega
theorem Lead.keep {rule : Int} {rest : List Int} {L : List (Int × Nat)} {left : Lit → Bool} {o k0 k1 : Int} (h : Lead rule rest L left false o k0 k1) (hn : (L.map Prod.fst).Nodup) {x : Int} {t : Nat} (hx : (x, t) ∈ L)
    (h1 : ¬ key0 rule rest x < k0) (h2 : ¬ (key0 rule rest x = k0 ∧ (t : Int) < k1)) : Lead rule rest L (fun z => left z && !z.sameKey (.int .i64 x)) false o k0 k1 := by
  obtain ⟨t', m1, m2, m3, m4, m5⟩ := h.some rfl
  refine ⟨fun e => (by cases e), fun _ => ⟨t', m1, m2, m3, by rw [left_same, m4]; rfl, fun y u hy hl => ?_⟩⟩
  rw [left_same] at hl
  by_cases e : y = x
  · subst e
    have := one_time hn hx hy
    subst this
    omega
  · simp only [ne_eq, e, not_false_eq_true, decide_true, Bool.and_true] at hl
    exact m5 y u hy hl
theorem Lead.end_ {rule : Int} {rest : List Int} {L : List (Int × Nat)} {left : Lit → Bool} {f : Bool} {o k0 k1 : Int} (h : Lead rule rest L left f o k0 k1) (hl : ∀ kl, left kl = false) (ht : L.Pairwise (fun p q => p.2 < q.2)) (hp : 0 < L.length) :
    ∃ hk : lv rule (L.map Prod.fst) rest < L.length, o = (L[lv rule (L.map Prod.fst) rest]).1 := by
  have hf : f = false := by
    cases hf : f with
    | false => rfl
    | true =>
      have := h.none hf L[0].1 L[0].2 (List.getElem_mem hp)
      rw [hl] at this; cases this
  obtain ⟨t, m1, m2, m3, _, m5⟩ := h.some hf
  obtain ⟨m, hm, em⟩ := List.mem_iff_getElem.1 m1
  have hlt : ∀ j (hj : j < m), L[j].2 < t := fun j hj => by
    have := (List.pairwise_iff_getElem.1 ht) j m (by omega) hm hj
    rw [em] at this
    exact this
  have hall : ∀ j (hj : j < L.length), k0 < key0 rule rest L[j].1 ∨ (k0 = key0 rule rest L[j].1 ∧ k1 ≤ (L[j].2 : Int)) := fun j hj => m5 L[j].1 L[j].2 (List.getElem_mem hj) (hl _)
  have e : lv rule (L.map Prod.fst) rest = m := by
    unfold lv
    by_cases hr : rule = 2
    · rw [if_pos hr]
      refine Pl.fm_of ⟨by simpa using hm, fun q hq => ?_, fun j hj => ?_⟩
      · obtain ⟨p, hp, rfl⟩ := List.mem_map.1 hq
        obtain ⟨j, hj, ej⟩ := List.mem_iff_getElem.1 hp
        have := hall j hj
        rw [ej] at this
        simp only [List.getElem_map, em]
        unfold key0 at this m2
        rw [if_pos hr] at this m2
        omega
      · have h1 := hall j (by omega)
        have h2 := hlt j hj
        simp only [List.getElem_map, em]
        unfold key0 at h1 m2
        rw [if_pos hr] at h1 m2
        omega
    · rw [if_neg hr]
      cases m with
      | zero => rfl
      | succ m =>
        have h1 := hall 0 hp
        have h2 := hlt 0 (by omega)
        unfold key0 at h1 m2
        rw [if_neg hr] at h1 m2
        omega
  refine ⟨by rw [e]; exact hm, ?_⟩
  have : ∀ k (hk : k < L.length), k = m → o = L[k].1 := fun k hk ek => by subst ek; rw [em]
  exact this _ _ e
theorem Reads.time {D : DataW Unit} {L : List (Int × Nat)} (h : Reads D L) {x c : Int} (ha : ∀ z, D.atKey (.int .i64 x) z = .lit (.int .i64 c)) : ∃ t : Nat, (x, t) ∈ L ∧ c = (t : Int) := by
  have hh := has_true_of_atKey ha
  rw [h.has x, decide_eq_true_eq] at hh
  obtain ⟨⟨y, t⟩, hm, rfl⟩ := List.mem_map.1 hh
  have := h.at_ y t hm (.lit (.int .i64 0))
  rw [ha] at this
  refine ⟨t, hm, ?_⟩
  injection this with this
  injection this

end Go.Proofs.Ytlcpioeobnjcdaa.PPool
