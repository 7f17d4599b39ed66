/-
  A pool of pages in plain words (no program in it): what Fifo, Lru, Best and Clock keep, ref by ref, and what follows: no more pages than room, each once, the last one that was asked for; BELADY: no rule hits more often than Best; MATTSON: with more room Lru and Best hit no less often; SLEATOR, TARJAN: how far Lru is from Best. Conditions: the room is at least one page.
-/
namespace Go.Proofs.YtbgcldckgiiedacDoor.PPool
namespace Pl

/-- How many of refs were not there. -/
def misses (h : List Bool) : Nat := h.countP (fun b => !b)
def hits (h : List Bool) : Nat := h.countP (fun b => b)
theorem hits_misses (h : List Bool) : hits h + misses h = h.length := by
  induction h with
  | nil => rfl
  | cons b r ih => cases b <;> simp [hits, misses] at * <;> omega

/-- What any rule may do: refs are asked for one after another; the new page is there behind it, and none that was not there before. -/
inductive Alg (k : Nat) : List Int → List Int → List Bool → Prop
  | nil (C : List Int) : Alg k C [] []
  | cons (C C' : List Int) (r : Int) (rs : List Int) (hs : List Bool) : C'.Nodup → C'.length ≤ k → r ∈ C' → (∀ x ∈ C', x = r ∨ x ∈ C) → Alg k C' rs hs → Alg k C (r :: rs) (decide (r ∈ C) :: hs)

theorem Alg.len {k : Nat} {C refs : List Int} {h : List Bool} (a : Alg k C refs h) : h.length = refs.length := by
  induction a with
  | nil => rfl
  | cons _ _ _ _ _ _ _ _ _ _ ih => simp [ih]
theorem Alg.wider {k k' : Nat} (hk : k ≤ k') {C refs : List Int} {h : List Bool} (a : Alg k C refs h) : Alg k' C refs h := by
  induction a with
  | nil => exact .nil _
  | cons C C' r rs hs h1 h2 h3 h4 _ ih => exact .cons C C' r rs hs h1 (Nat.le_trans h2 hk) h3 h4 ih

/-! ### Best -/
/-- The first of those that rest asks for last of all. -/
def fm (P rest : List Int) : Nat := P.findIdx (fun p => P.all (fun q => decide (rest.idxOf q ≤ rest.idxOf p)))
structure FirstMax (P rest : List Int) (k : Nat) : Prop where
  lt : k < P.length
  max : ∀ q ∈ P, rest.idxOf q ≤ rest.idxOf P[k]
  first : ∀ j (_ : j < k), rest.idxOf P[j] < rest.idxOf P[k]
theorem fm_of {P rest : List Int} {k : Nat} (h : FirstMax P rest k) : fm P rest = k := by
  unfold fm
  rw [List.findIdx_eq h.lt]
  refine ⟨?_, ?_⟩
  · simp only [List.all_eq_true, decide_eq_true_eq]
    exact h.max
  · intro j hj
    have h1 := h.first j hj
    rw [Bool.eq_false_iff]
    simp only [ne_eq, List.all_eq_true, decide_eq_true_eq]
    intro hh
    have := hh (P[k]'h.lt) (List.getElem_mem h.lt)
    omega
theorem max_ex (f : Int → Nat) : ∀ (P : List Int), P ≠ [] → ∃ p ∈ P, ∀ q ∈ P, f q ≤ f p
  | [], h => absurd rfl h
  | [p], _ => ⟨p, by simp, fun q hq => by simp at hq; subst hq; exact Nat.le_refl _⟩
  | p :: p' :: r, _ => by
    obtain ⟨m, hm, hx⟩ := max_ex f (p' :: r) (by simp)
    by_cases hp : f m ≤ f p
    · exact ⟨p, by simp, fun q hq => by
        rcases List.mem_cons.1 hq with e | e
        · subst e; exact Nat.le_refl _
        · exact Nat.le_trans (hx q e) hp⟩
    · exact ⟨m, by simp [List.mem_cons.1 hm], fun q hq => by
        rcases List.mem_cons.1 hq with e | e
        · subst e; omega
        · exact hx q e⟩
theorem fm_is {P : List Int} (rest : List Int) (hP : P ≠ []) : FirstMax P rest (fm P rest) := by
  obtain ⟨m, hm, hx⟩ := max_ex (fun q => rest.idxOf q) P hP
  have hlt : fm P rest < P.length := by
    unfold fm
    rw [List.findIdx_lt_length]
    exact ⟨m, hm, by simp only [List.all_eq_true, decide_eq_true_eq]; exact hx⟩
  have hmax : ∀ q ∈ P, rest.idxOf q ≤ rest.idxOf P[fm P rest] := by
    have := List.findIdx_getElem (xs := P) (p := fun p => P.all (fun q => decide (rest.idxOf q ≤ rest.idxOf p))) (w := hlt)
    simp only [List.all_eq_true, decide_eq_true_eq] at this
    exact this
  refine ⟨hlt, hmax, fun j hj => ?_⟩
  have := List.not_of_lt_findIdx (p := fun p => P.all (fun q => decide (rest.idxOf q ≤ rest.idxOf p))) (xs := P) hj
  rw [Bool.eq_false_iff] at this
  simp only [ne_eq, List.all_eq_true, decide_eq_true_eq] at this
  refine Classical.byContradiction fun hn => this fun q hq => ?_
  have := hmax q hq
  omega

/-- The page at k goes behind all others. -/
def behind (P : List Int) (k : Nat) : List Int := P.eraseIdx k ++ (P[k]?).toList
def fifoS (k : Nat) (P : List Int) (r : Int) : List Int := if r ∈ P then P else if P.length < k then P ++ [r] else P.eraseIdx 0 ++ [r]
def lruS (k : Nat) (P : List Int) (r : Int) : List Int := if r ∈ P then P.erase r ++ [r] else if P.length < k then P ++ [r] else P.eraseIdx 0 ++ [r]
def bestS (k : Nat) (P : List Int) (r : Int) (rest : List Int) : List Int := if r ∈ P then P else if P.length < k then P ++ [r] else P.eraseIdx (fm P rest) ++ [r]

/-- A rule's run: S how it stands, pg which pages are there. -/
def go {S : Type} (pg : S → List Int) (step : S → Int → List Int → S) : S → List Int → List Bool × S
  | s, [] => ([], s)
  | s, r :: rs => (decide (r ∈ pg s) :: (go pg step (step s r rs) rs).1, (go pg step (step s r rs) rs).2)
/-- What a rule that keeps to the room does. -/
structure Keeps {S : Type} (k : Nat) (pg : S → List Int) (step : S → Int → List Int → S) (I : S → Prop) : Prop where
  nodup : ∀ s, I s → (pg s).Nodup
  room : ∀ s, I s → (pg s).length ≤ k
  next : ∀ s r rs, I s → I (step s r rs)
  new : ∀ s r rs, I s → r ∈ pg (step s r rs)
  old : ∀ s r rs, I s → ∀ x ∈ pg (step s r rs), x = r ∨ x ∈ pg s
theorem Keeps.alg {S : Type} {k : Nat} {pg : S → List Int} {step : S → Int → List Int → S} {I : S → Prop} (h : Keeps k pg step I) : ∀ (refs : List Int) (s : S), I s → Alg k (pg s) refs (go pg step s refs).1
  | [], _, _ => .nil _
  | r :: rs, s, hs => .cons _ _ _ _ _ (h.nodup _ (h.next s r rs hs)) (h.room _ (h.next s r rs hs)) (h.new s r rs hs) (h.old s r rs hs) (h.alg rs _ (h.next s r rs hs))
theorem Keeps.inv {S : Type} {k : Nat} {pg : S → List Int} {step : S → Int → List Int → S} {I : S → Prop} (h : Keeps k pg step I) : ∀ (refs : List Int) (s : S), I s → I (go pg step s refs).2
  | [], _, hs => hs
  | r :: rs, s, hs => h.inv rs _ (h.next s r rs hs)
theorem Keeps.mem {S : Type} {k : Nat} {pg : S → List Int} {step : S → Int → List Int → S} {I : S → Prop} (h : Keeps k pg step I) : ∀ (refs : List Int) (s : S), I s → ∀ x ∈ pg (go pg step s refs).2, x ∈ refs ∨ x ∈ pg s
  | [], _, _, x, hx => .inr hx
  | r :: rs, s, hs, x, hx => by
    rcases h.mem rs _ (h.next s r rs hs) x hx with e | e
    · exact .inl (by simp [e])
    · rcases h.old s r rs hs x e with e | e
      · exact .inl (by simp [e])
      · exact .inr e
theorem Keeps.last {S : Type} {k : Nat} {pg : S → List Int} {step : S → Int → List Int → S} {I : S → Prop} (h : Keeps k pg step I) : ∀ (refs : List Int) (s : S), I s → ∀ r, refs.getLast? = some r → r ∈ pg (go pg step s refs).2
  | [], _, _, r, hr => by simp at hr
  | [r0], s, hs, r, hr => by
    simp at hr; subst hr
    exact h.new s r0 [] hs
  | r0 :: r1 :: rs, s, hs, r, hr => by
    have : (r1 :: rs).getLast? = some r := by simpa using hr
    exact h.last (r1 :: rs) _ (h.next s r0 (r1 :: rs) hs) r this

structure Ok (k : Nat) (P : List Int) : Prop where
  nodup : P.Nodup
  room : P.length ≤ k

theorem Ok.nil (k : Nat) : Ok k [] := ⟨List.nodup_nil, Nat.zero_le _⟩
theorem ok_snoc {k : Nat} {P : List Int} {r : Int} (h : P.Nodup) (hr : r ∉ P) (hl : P.length < k) : Ok k (P ++ [r]) :=
  ⟨List.nodup_append.2 ⟨h, List.nodup_cons.2 ⟨by simp, List.nodup_nil⟩, by intro a ha b hb; simp at hb; subst hb; rintro rfl; exact hr ha⟩, by simp; omega⟩
theorem ok_swap {k : Nat} {P : List Int} {r : Int} (h : Ok k P) (hr : r ∉ P) (j : Nat) (hj : j < P.length) : Ok k (P.eraseIdx j ++ [r]) := by
  refine ok_snoc (h.nodup.sublist (List.eraseIdx_sublist _ _)) (fun e => hr (List.mem_of_mem_eraseIdx e)) ?_
  rw [List.length_eraseIdx_of_lt hj]
  have := h.room
  omega
theorem swap_old {P : List Int} {r : Int} (j : Nat) : ∀ x ∈ P.eraseIdx j ++ [r], x = r ∨ x ∈ P := by
  intro x hx
  rcases List.mem_append.1 hx with e | e
  · exact .inr (List.mem_of_mem_eraseIdx e)
  · exact .inl (by simpa using e)

theorem bestS_next {k : Nat} (hk : 1 ≤ k) {P : List Int} (h : Ok k P) (r : Int) (rs : List Int) : Ok k (bestS k P r rs) := by
  unfold bestS
  split
  · exact h
  · rename_i hr
    split
    · rename_i hl; exact ok_snoc h.nodup hr hl
    · rename_i hl
      exact ok_swap h hr _ (fm_is rs (fun e => by subst e; simp at hl; omega)).lt
theorem bestS_new {k : Nat} {P : List Int} (r : Int) (rs : List Int) : r ∈ bestS k P r rs := by
  unfold bestS
  split
  · assumption
  · split <;> simp
theorem bestS_old {k : Nat} {P : List Int} (r : Int) (rs : List Int) : ∀ x ∈ bestS k P r rs, x = r ∨ x ∈ P := by
  intro x hx
  unfold bestS at hx
  split at hx
  · exact .inr hx
  · split at hx
    · rcases List.mem_append.1 hx with e | e
      · exact .inr e
      · exact .inl (by simpa using e)
    · exact swap_old _ x hx
theorem best_keeps {k : Nat} (hk : 1 ≤ k) : Keeps k id (bestS k) (Ok k) :=
  ⟨fun _ h => h.nodup, fun _ h => h.room, fun _ r rs h => bestS_next hk h r rs, fun _ r rs _ => bestS_new r rs, fun _ r rs _ => bestS_old r rs⟩
theorem fifo_keeps {k : Nat} (hk : 1 ≤ k) : Keeps k id (fun P r _ => fifoS k P r) (Ok k) := by
  refine ⟨fun _ h => h.nodup, fun _ h => h.room, fun P r _ h => ?_, fun P r _ _ => ?_, fun P r _ _ x hx => ?_⟩
  · show Ok k (fifoS k P r)
    unfold fifoS
    split
    · exact h
    · rename_i hr
      split
      · rename_i hl; exact ok_snoc h.nodup hr hl
      · rename_i hl; exact ok_swap h hr _ (by omega)
  · show r ∈ fifoS k P r
    unfold fifoS
    split
    · assumption
    · split <;> simp
  · have hx : x ∈ fifoS k P r := hx
    unfold fifoS at hx
    split at hx
    · exact .inr hx
    · split at hx
      · rcases List.mem_append.1 hx with e | e
        · exact .inr e
        · exact .inl (by simpa using e)
      · exact swap_old _ x hx
theorem lru_keeps {k : Nat} (hk : 1 ≤ k) : Keeps k id (fun P r _ => lruS k P r) (Ok k) := by
  refine ⟨fun _ h => h.nodup, fun _ h => h.room, fun P r _ h => ?_, fun P r _ _ => ?_, fun P r _ _ x hx => ?_⟩
  · show Ok k (lruS k P r)
    unfold lruS
    split
    · rename_i hr
      have hp := List.length_pos_of_mem hr
      refine ok_snoc (h.nodup.erase _) (h.nodup.not_mem_erase) ?_
      rw [List.length_erase_of_mem hr]
      have := h.room
      omega
    · rename_i hr
      split
      · rename_i hl; exact ok_snoc h.nodup hr hl
      · rename_i hl; exact ok_swap h hr _ (by omega)
  · show r ∈ lruS k P r
    unfold lruS
    split
    · simp
    · split <;> simp
  · have hx : x ∈ lruS k P r := hx
    unfold lruS at hx
    split at hx
    · rcases List.mem_append.1 hx with e | e
      · exact .inr (List.mem_of_mem_erase e)
      · exact .inl (by simpa using e)
    · split at hx
      · rcases List.mem_append.1 hx with e | e
        · exact .inr e
        · exact .inl (by simpa using e)
      · exact swap_old _ x hx

/-! ### BELADY -/
/-- How many of C are asked for in s. -/
def cnt (s C : List Int) : Nat := C.countP (fun p => decide (p ∈ s))
theorem cnt_le (s C : List Int) : cnt s C ≤ C.length := List.countP_le_length
theorem cnt_all {s C : List Int} (h : ∀ p ∈ C, p ∈ s) : cnt s C = C.length := by
  unfold cnt
  rw [List.countP_eq_length]
  simpa using h
theorem cnt_app (s C D : List Int) : cnt s (C ++ D) = cnt s C + cnt s D := by simp [cnt]
theorem cnt_one (s : List Int) (r : Int) : cnt s [r] = if r ∈ s then 1 else 0 := by unfold cnt; by_cases h : r ∈ s <;> simp [h]
/-- The one that is asked for first is taken out. -/
theorem cnt_cons {s C : List Int} {r : Int} (h : C.Nodup) : cnt (r :: s) C = cnt s (C.erase r) + (if r ∈ C then 1 else 0) := by
  induction C with
  | nil => simp [cnt]
  | cons c C ih =>
    have hn := List.nodup_cons.1 h
    have ih := ih hn.2
    by_cases e : c = r
    · subst e
      have h0 : cnt (c :: s) C = cnt s C := by
        unfold cnt
        refine List.countP_congr fun x hx => ?_
        have : x ≠ c := fun e => hn.1 (e ▸ hx)
        simp [this]
      unfold cnt at h0 ⊢
      simp only [List.countP_cons, List.erase_cons_head, List.mem_cons, true_or, decide_true, if_true]
      simpa using h0
    · have e2 : (c :: C).erase r = c :: C.erase r := by rw [List.erase_cons_tail]; simpa using e
      rw [e2]
      have e3 : (r ∈ c :: C) ↔ r ∈ C := by simp [Ne.symm e]
      unfold cnt at ih ⊢
      simp only [List.countP_cons, List.mem_cons, e, false_or, e3]
      simp only [List.mem_cons] at ih
      by_cases h1 : r ∈ C <;> by_cases h2 : c ∈ s <;> simp [h1, h2] at ih ⊢ <;> omega
theorem cnt_erase {s C : List Int} {r : Int} (h : r ∈ C) : cnt s C = cnt s (C.erase r) + (if r ∈ s then 1 else 0) := by
  have := (List.perm_cons_erase h).countP_eq (fun p => decide (p ∈ s))
  unfold cnt
  rw [this, List.countP_cons]
  simp
theorem cnt_not {s C : List Int} {r : Int} (h : r ∉ C) : cnt s (C.erase r) = cnt s C := by rw [List.erase_of_not_mem h]
theorem sub_len : ∀ (C D : List Int), C.Nodup → (∀ x ∈ C, x ∈ D) → C.length ≤ D.length
  | [], _, _, _ => Nat.zero_le _
  | c :: C, D, hn, h => by
    have hn := List.nodup_cons.1 hn
    have hc := h c (by simp)
    have ih := sub_len C (D.erase c) hn.2 fun x hx => (List.mem_erase_of_ne (fun (e : x = c) => hn.1 (e ▸ hx))).2 (h x (by simp [hx]))
    rw [List.length_erase_of_mem hc] at ih
    have := List.length_pos_of_mem hc
    simp only [List.length_cons]
    omega
theorem cnt_sub {s C D : List Int} (h : C.Nodup) (hs : ∀ x ∈ C, x ∈ D) : cnt s C ≤ cnt s D := by
  unfold cnt
  rw [List.countP_eq_length_filter, List.countP_eq_length_filter]
  have : (C.filter (fun p => decide (p ∈ s))).Nodup := h.sublist List.filter_sublist
  exact sub_len _ _ this (fun x hx => by
    rw [List.mem_filter] at hx ⊢
    exact ⟨hs x hx.1, hx.2⟩)
theorem idx_take {l : List Int} {x : Int} {j : Nat} : x ∈ l.take j ↔ l.idxOf x < j ∧ x ∈ l := by
  induction l generalizing j with
  | nil => simp
  | cons a l ih =>
    cases j with
    | zero => simp
    | succ j =>
      rw [List.take_succ_cons, List.mem_cons, ih, List.idxOf_cons]
      by_cases e : a = x
      · subst e; simp
      · have : (a == x) = false := by simpa using e
        simp [this, Ne.symm e]
theorem fm_far {P rest : List Int} (hP : P ≠ []) (j : Nat) (h : P[fm P rest]'(fm_is rest hP).lt ∈ rest.take j) : ∀ p ∈ P, p ∈ rest.take j := by
  intro p hp
  have hm := (fm_is rest hP).max p hp
  rw [idx_take] at h ⊢
  have h2 : rest.idxOf p < j := by omega
  refine ⟨h2, ?_⟩
  have h3 := List.idxOf_lt_length_of_mem h.2
  exact List.idxOf_lt_length_iff.1 (by omega)
theorem cnt_eraseIdx {s P : List Int} {k : Nat} (hk : k < P.length) : cnt s P = cnt s (P.eraseIdx k) + (if P[k] ∈ s then 1 else 0) := by
  have e := List.take_append_drop k P
  have e2 : P.drop k = P[k] :: P.drop (k + 1) := List.drop_eq_getElem_cons hk
  have h1 : cnt s P = cnt s (P.take k) + cnt s (P.drop k) := by rw [← cnt_app, e]
  have h2 : cnt s (P[k] :: P.drop (k + 1)) = cnt s [P[k]] + cnt s (P.drop (k + 1)) := cnt_app s [P[k]] _
  rw [h1, e2, h2, List.eraseIdx_eq_take_drop_succ, cnt_app, cnt_one]
  omega

theorem belady {k : Nat} (hk : 1 ≤ k) : ∀ (refs C C' : List Int) (hs : List Bool) (d : Nat), Ok k C → C'.Nodup → Alg k C' refs hs →
    (∀ j, cnt (refs.take j) C' ≤ cnt (refs.take j) C + d) → misses (go id (bestS k) C refs).1 ≤ misses hs + d
  | [], C, C', hs, d, _, _, _, _ => by simp [go, misses]
  | r :: rs, C, C', _, d, hC, hC', .cons _ D _ _ hs hD hDk hrD hDo a, hd => by
    have hN := bestS_next hk hC r rs
    -- what the other rule has behind it
    have hE : ∀ j, cnt (rs.take j) D ≤ cnt (rs.take j) (C'.erase r) + cnt (rs.take j) [r] := fun j => by
      rw [← cnt_app]
      refine cnt_sub hD fun x hx => ?_
      by_cases e : x = r
      · subst e; simp
      · rcases hDo x hx with e' | e'
        · exact absurd e' e
        · exact List.mem_append.2 (.inl ((List.mem_erase_of_ne e).2 e'))
    have hroom : ∀ j, cnt (rs.take j) D + 1 ≤ k + cnt (rs.take j) [r] := fun j => by
      have h1 := cnt_erase (s := rs.take j) hrD
      have h2 := cnt_le (rs.take j) (D.erase r)
      rw [List.length_erase_of_mem hrD] at h2
      have h3 := List.length_pos_of_mem hrD
      rw [cnt_one]
      omega
    have hd' : ∀ j, cnt (rs.take j) (C'.erase r) + (if r ∈ C' then 1 else 0) ≤ cnt (rs.take j) (C.erase r) + (if r ∈ C then 1 else 0) + d := fun j => by
      have := hd (j + 1)
      rw [List.take_succ_cons, cnt_cons hC', cnt_cons hC.nodup] at this
      omega
    have step : ∀ d', (∀ j, cnt (rs.take j) D ≤ cnt (rs.take j) (bestS k C r rs) + d') → misses (go id (bestS k) (bestS k C r rs) rs).1 ≤ misses hs + d' :=
      fun d' h => belady hk rs _ D hs d' hN hD a h
    have hg : (go id (bestS k) C (r :: rs)).1 = decide (r ∈ C) :: (go id (bestS k) (bestS k C r rs) rs).1 := rfl
    rw [hg]
    by_cases hr : r ∈ C
    · have hb : bestS k C r rs = C := by unfold bestS; rw [if_pos hr]
      have hc : ∀ j, cnt (rs.take j) C = cnt (rs.take j) (C.erase r) + cnt (rs.take j) [r] := fun j => by rw [cnt_one]; exact cnt_erase hr
      by_cases hr' : r ∈ C'
      · have := step d fun j => by
          rw [hb]
          have h1 := hE j; have h2 := hd' j; have h3 := hc j
          rw [if_pos hr, if_pos hr'] at h2
          omega
        simp only [misses, hr, hr', decide_true, List.countP_cons] at this ⊢
        omega
      · have := step (d + 1) fun j => by
          rw [hb]
          have h1 := hE j; have h2 := hd' j; have h3 := hc j
          rw [if_pos hr, if_neg hr'] at h2
          omega
        simp only [misses, hr, hr', decide_true, decide_false, List.countP_cons] at this ⊢
        simp at this ⊢
        omega
    · -- Best brings the page in
      have hbest : ∀ j, cnt (rs.take j) (bestS k C r rs) = cnt (rs.take j) C + cnt (rs.take j) [r] ∨ k + cnt (rs.take j) [r] ≤ cnt (rs.take j) (bestS k C r rs) + 1 := fun j => by
        unfold bestS
        rw [if_neg hr]
        split
        · exact .inl (cnt_app _ _ _)
        · rename_i hl
          have hP : C ≠ [] := fun e => by subst e; simp at hl; omega
          have hlt := (fm_is rs hP).lt
          have h1 := cnt_eraseIdx (s := rs.take j) hlt
          rw [cnt_app]
          by_cases hq : C[fm C rs] ∈ rs.take j
          · have h2 := cnt_all (fm_far hP j hq)
            rw [if_pos hq] at h1
            right; omega
          · rw [if_neg hq] at h1
            left; omega
      have hc : ∀ j, cnt (rs.take j) (C.erase r) = cnt (rs.take j) C := fun j => cnt_not hr
      by_cases hr' : r ∈ C'
      · have hd1 : 1 ≤ d := by
          have := hd' 0
          rw [if_neg hr, if_pos hr'] at this
          simp [cnt] at this
          omega
        have := step (d - 1) fun j => by
          have h1 := hE j; have h2 := hd' j; have h3 := hc j; have h4 := hroom j
          rw [if_neg hr, if_pos hr'] at h2
          rcases hbest j with h5 | h5 <;> omega
        simp only [misses, hr, hr', decide_true, decide_false, List.countP_cons] at this ⊢
        simp at this ⊢
        omega
      · have := step d fun j => by
          have h1 := hE j; have h2 := hd' j; have h3 := hc j; have h4 := hroom j
          rw [if_neg hr, if_neg hr'] at h2
          rcases hbest j with h5 | h5 <;> omega
        simp only [misses, hr, hr', decide_false, List.countP_cons] at this ⊢
        simp at this ⊢
        omega

/-- No rule hits more often than Best. -/
theorem best_most {k : Nat} (hk : 1 ≤ k) {refs : List Int} {hs : List Bool} (a : Alg k [] refs hs) : hits hs ≤ hits (go id (bestS k) [] refs).1 := by
  have h := belady hk refs [] [] hs 0 (Ok.nil k) List.nodup_nil a (fun j => by simp [cnt])
  have h1 := hits_misses hs
  have h2 := hits_misses (go id (bestS k) [] refs).1
  have h3 := a.len
  have h4 := ((best_keeps hk).alg refs [] (Ok.nil k)).len
  omega

/-! ### MATTSON -/
/-- The last k of L. -/
def lastk (k : Nat) (L : List Int) : List Int := L.drop (L.length - k)
/-- All pages, in the order in which they were asked for last. -/
def recS (L : List Int) (r : Int) : List Int := L.erase r ++ [r]
theorem recS_nodup {L : List Int} (h : L.Nodup) (r : Int) : (recS L r).Nodup :=
  (ok_snoc (k := (L.erase r).length + 1) (h.erase _) h.not_mem_erase (Nat.lt_succ_self _)).nodup
theorem lastk_app {k : Nat} {A B : List Int} (h : B.length = k) : lastk k (A ++ B) = B := by
  unfold lastk
  rw [List.length_append, h, Nat.add_sub_cancel, List.drop_left]
theorem lastk_all {k : Nat} {L : List Int} (h : L.length ≤ k) : lastk k L = L := by
  unfold lastk
  rw [Nat.sub_eq_zero_of_le h, List.drop_zero]
theorem lastk_len (k : Nat) (L : List Int) : (lastk k L).length = min k L.length := by
  unfold lastk
  rw [List.length_drop]
  omega
theorem lastk_cut (k : Nat) (L : List Int) : L = L.take (L.length - k) ++ lastk k L := by
  unfold lastk
  rw [List.take_append_drop]
theorem lru_lastk {k : Nat} (hk : 1 ≤ k) {L : List Int} (hL : L.Nodup) (r : Int) : lruS k (lastk k L) r = lastk k (recS L r) := by
  by_cases hl : L.length < k
  · rw [lastk_all (Nat.le_of_lt hl)]
    unfold lruS recS
    by_cases hr : r ∈ L
    · rw [if_pos hr, lastk_all]
      have := List.length_pos_of_mem hr
      rw [List.length_append, List.length_erase_of_mem hr]
      simp
      omega
    · rw [if_neg hr, if_pos hl, List.erase_of_not_mem hr, lastk_all]
      simp
      omega
  · have hc := lastk_cut k L
    have hlen := lastk_len k L
    generalize lastk k L = P at hc hlen ⊢
    generalize L.take (L.length - k) = A at hc
    have hPk : P.length = k := by omega
    subst hc
    unfold lruS recS
    have hd := List.nodup_append.1 hL
    by_cases hr : r ∈ P
    · have hA : r ∉ A := fun h => hd.2.2 r h r hr rfl
      rw [if_pos hr, List.erase_append_right _ hA, List.append_assoc, lastk_app]
      rw [List.length_append, List.length_erase_of_mem hr]
      simp
      omega
    · rw [if_neg hr, if_neg (by omega)]
      cases P with
      | nil => simp at hPk; omega
      | cons p P =>
        have e : ∃ A', (A ++ p :: P).erase r ++ [r] = A' ++ (P ++ [r]) := by
          by_cases hA : r ∈ A
          · exact ⟨A.erase r ++ [p], by rw [List.erase_append_left _ hA]; simp⟩
          · exact ⟨A ++ [p], by rw [List.erase_of_not_mem (by simp only [List.mem_append, not_or]; exact ⟨hA, hr⟩)]; simp⟩
        obtain ⟨A', e⟩ := e
        rw [e, lastk_app (by simp at hPk ⊢; omega)]
        simp
def recs : List Int → List Int → List Int
  | L, [] => L
  | L, r :: rs => recs (recS L r) rs
theorem lru_end {k : Nat} (hk : 1 ≤ k) : ∀ (refs L : List Int), L.Nodup → (go id (fun P r _ => lruS k P r) (lastk k L) refs).2 = lastk k (recs L refs)
  | [], _, _ => rfl
  | r :: rs, L, hL => by
    show (go id (fun P r _ => lruS k P r) (lruS k (lastk k L) r) rs).2 = lastk k (recs (recS L r) rs)
    rw [lru_lastk hk hL]
    exact lru_end hk rs _ (recS_nodup hL r)
theorem lastk_sub {a b : Nat} (h : a ≤ b) (L : List Int) : ∀ x ∈ lastk a L, x ∈ lastk b L := by
  intro x hx
  have e : L.length - a = (L.length - b) + ((L.length - a) - (L.length - b)) := by omega
  unfold lastk at hx ⊢
  rw [e, ← List.drop_drop] at hx
  exact List.mem_of_mem_drop hx
theorem lru_more {a b : Nat} (ha : 1 ≤ a) (hab : a ≤ b) : ∀ (refs L : List Int), L.Nodup → ∀ i : Nat, (go id (fun P r _ => lruS a P r) (lastk a L) refs).1[i]? = some true → (go id (fun P r _ => lruS b P r) (lastk b L) refs).1[i]? = some true
  | [], _, _, i, h => by simp [go] at h
  | r :: rs, L, hL, 0, h => by
    simp only [go, id, List.getElem?_cons_zero, Option.some.injEq, decide_eq_true_eq] at h ⊢
    exact lastk_sub hab L _ h
  | r :: rs, L, hL, i + 1, h => by
    have h1 : (go id (fun P r _ => lruS a P r) (lruS a (lastk a L) r) rs).1[i]? = some true := h
    show (go id (fun P r _ => lruS b P r) (lruS b (lastk b L) r) rs).1[i]? = some true
    rw [lru_lastk ha hL] at h1
    rw [lru_lastk (Nat.le_trans ha hab) hL]
    exact lru_more ha hab rs _ (recS_nodup hL r) i h1
theorem lastk_lastk {a b : Nat} (h : a ≤ b) (L : List Int) : (lastk a L).length ≤ (lastk b L).length ∧ lastk a L = (lastk b L).drop ((lastk b L).length - (lastk a L).length) := by
  refine ⟨by rw [lastk_len, lastk_len]; omega, ?_⟩
  rw [lastk_len, lastk_len]
  unfold lastk
  rw [List.drop_drop]
  congr 1
  omega

/-! ### SLEATOR, TARJAN -/
theorem lru_ends {k : Nat} (P : List Int) (r : Int) : ∃ A, lruS k P r = A ++ [r] := by
  unfold lruS
  split
  · exact ⟨_, rfl⟩
  · split
    · exact ⟨_, rfl⟩
    · exact ⟨_, rfl⟩
/-- How it stands within a phase: p was asked for last ahead of it, W are the others that were asked for since; the other rule had C0, missed o times since, Lru c times. -/
structure Phase (a b : Nat) (P C C0 W : List Int) (p : Int) (c o : Nat) : Prop where
  ok : Ok a P
  c0 : C0.Nodup
  b0 : C0.length ≤ b
  pin : p ∈ C0
  wn : W.Nodup
  pw : p ∉ W
  top : W.length < a → ∃ A B, P = A ++ B ∧ (∀ x, x ∈ B ↔ x = p ∨ x ∈ W)
  cw : c ≤ W.length
  ca : c < a
  mo : W.countP (fun x => decide (x ∉ C0)) ≤ o
  old : ∀ x ∈ C, x ∈ C0 ∨ x ∈ W
theorem Phase.few {a b : Nat} {P C C0 W : List Int} {p : Int} {c o : Nat} (h : Phase a b P C C0 W p c o) : W.length + 1 ≤ b + o := by
  have h1 : (W.filter (fun x => decide (x ∈ C0))).length ≤ (C0.erase p).length := by
    refine sub_len _ _ (h.wn.sublist List.filter_sublist) fun x hx => ?_
    rw [List.mem_filter] at hx
    exact (List.mem_erase_of_ne (fun (e : x = p) => h.pw (e ▸ hx.1))).2 (by simpa using hx.2)
  have h2 := List.length_erase_of_mem h.pin
  have h3 := List.length_pos_of_mem h.pin
  have h4 : W.length = W.countP (fun x => decide (x ∈ C0)) + W.countP (fun x => decide (x ∉ C0)) := by
    have := List.length_eq_countP_add_countP (fun x => decide (x ∈ C0)) (l := W)
    simpa using this
  rw [← List.countP_eq_length_filter] at h1
  have := h.mo
  have := h.b0
  omega
theorem Phase.fresh {a b : Nat} (ha : 1 ≤ a) {P D : List Int} {r : Int} (hok : Ok a P) (he : ∃ A, P = A ++ [r]) (hD : D.Nodup) (hDb : D.length ≤ b) (hr : r ∈ D) : Phase a b P D D [] r 0 0 :=
  ⟨hok, hD, hDb, hr, List.nodup_nil, by simp, fun _ => by obtain ⟨A, e⟩ := he; exact ⟨A, [r], e, by simp⟩, Nat.le_refl _, by omega, by simp, fun x hx => .inl hx⟩
theorem race {a b q : Nat} (hb : 1 ≤ b) (hq : q + b = a + 1) (hba : b ≤ a) : ∀ (refs P C C0 W : List Int) (p : Int) (c o : Nat) (hs : List Bool), Phase a b P C C0 W p c o → Alg b C refs hs →
    (misses (go id (fun P r _ => lruS a P r) P refs).1 + c + 1) * q ≤ a * (misses hs + o + 1) + b * q
  | [], P, C, C0, W, p, c, o, _, h, .nil _ => by
    have h1 := h.few
    have h2 := h.cw
    have h3 : (c + 1) * q ≤ (b + o) * q := Nat.mul_le_mul_right _ (by omega)
    have h4 : o * q ≤ o * a := Nat.mul_le_mul_left _ (by omega)
    simp only [go, misses, List.countP_nil, Nat.zero_add]
    rw [Nat.add_mul b o] at h3
    rw [Nat.mul_add, Nat.mul_comm a o]
    omega
  | r :: rs, P, C, C0, W, p, c, o, _, h, .cons _ D _ _ hs hD hDb hrD hDo al => by
    have ha : 1 ≤ a := by omega
    have hok : Ok a (lruS a P r) := (lru_keeps ha).next P r rs h.ok
    have hge : (go id (fun P r _ => lruS a P r) P (r :: rs)).1 = decide (r ∈ P) :: (go id (fun P r _ => lruS a P r) (lruS a P r) rs).1 := rfl
    rw [hge]
    have hm1 : misses (decide (r ∈ P) :: (go id (fun P r _ => lruS a P r) (lruS a P r) rs).1) = (if r ∈ P then 0 else 1) + misses (go id (fun P r _ => lruS a P r) (lruS a P r) rs).1 := by
      unfold misses; rw [List.countP_cons]; by_cases e : r ∈ P <;> simp [e]; omega
    have hm2 : misses (decide (r ∈ C) :: hs) = (if r ∈ C then 0 else 1) + misses hs := by
      unfold misses; rw [List.countP_cons]; by_cases e : r ∈ C <;> simp [e]; omega
    rw [hm1, hm2]
    -- what is known of the phase behind this ref, but for its end
    have key : ∃ W' : List Int, W'.Nodup ∧ p ∉ W' ∧ (W'.length < a → ∃ A B, lruS a P r = A ++ B ∧ (∀ x, x ∈ B ↔ x = p ∨ x ∈ W')) ∧ c + (if r ∈ P then 0 else 1) ≤ W'.length ∧
        W'.countP (fun x => decide (x ∉ C0)) ≤ o + (if r ∈ C then 0 else 1) ∧ (∀ x ∈ D, x ∈ C0 ∨ x ∈ W') := by
      by_cases hr : r = p ∨ r ∈ W
      · refine ⟨W, h.wn, h.pw, fun hlt => ?_, ?_, by have := h.mo; omega, fun x hx => ?_⟩
        · obtain ⟨A, B, e, hB⟩ := h.top hlt
          have hrB : r ∈ B := (hB r).2 hr
          have hn : A.Nodup ∧ B.Nodup ∧ _ := List.nodup_append.1 (e ▸ h.ok.nodup)
          have hA : r ∉ A := fun hx => hn.2.2 r hx r hrB rfl
          refine ⟨A, B.erase r ++ [r], ?_, fun x => ?_⟩
          · subst e
            unfold lruS
            rw [if_pos (by simp [hrB]), List.erase_append_right _ hA, List.append_assoc]
          · rw [← hB x, List.mem_append]
            by_cases ex : x = r
            · subst ex; simp [hrB]
            · rw [List.mem_erase_of_ne ex]; simp [ex]
        · by_cases hlt : W.length < a
          · obtain ⟨A, B, e, hB⟩ := h.top hlt
            rw [if_pos (by rw [e]; simp [(hB r).2 hr])]
            exact h.cw
          · have := h.ca
            split <;> omega
        · rcases hDo x hx with ex | ex
          · subst ex
            rcases hr with ex | ex
            · subst ex; exact .inl h.pin
            · exact .inr ex
          · exact h.old x ex
      · have hrp : r ≠ p := fun e => hr (.inl e)
        have hrW : r ∉ W := fun e => hr (.inr e)
        refine ⟨r :: W, List.nodup_cons.2 ⟨hrW, h.wn⟩, by simp [h.pw, Ne.symm hrp], fun hlt => ?_, ?_, ?_, fun x hx => ?_⟩
        · simp only [List.length_cons] at hlt
          obtain ⟨A, B, e, hB⟩ := h.top (by omega)
          have hrB : r ∉ B := fun hx => by rcases (hB r).1 hx with e | e; exact hrp e; exact hrW e
          have hn : A.Nodup ∧ B.Nodup ∧ _ := List.nodup_append.1 (e ▸ h.ok.nodup)
          have hBl : B.length ≤ W.length + 1 := sub_len B (p :: W) hn.2.1 fun x hx => by rw [List.mem_cons]; exact (hB x).1 hx
          have hmem : ∀ x, x ∈ B ++ [r] ↔ x = p ∨ x ∈ r :: W := fun x => by
            rw [List.mem_append, hB x, List.mem_singleton, List.mem_cons]
            constructor
            · rintro ((e | e) | e)
              · exact .inl e
              · exact .inr (.inr e)
              · exact .inr (.inl e)
            · rintro (e | e | e)
              · exact .inl (.inl e)
              · exact .inr e
              · exact .inl (.inr e)
          unfold lruS
          by_cases hrP : r ∈ P
          · have hrA : r ∈ A := by rw [e] at hrP; exact (List.mem_append.1 hrP).resolve_right hrB
            exact ⟨A.erase r, B ++ [r], by rw [if_pos hrP, e, List.erase_append_left _ hrA, List.append_assoc], hmem⟩
          · rw [if_neg hrP]
            by_cases hl : P.length < a
            · exact ⟨A, B ++ [r], by rw [if_pos hl, e, List.append_assoc], hmem⟩
            · rw [if_neg hl]
              have hl2 : a ≤ A.length + B.length := by rw [e, List.length_append] at hl; omega
              cases A with
              | nil => simp at hl2; omega
              | cons y A => exact ⟨A, B ++ [r], by rw [e]; simp, hmem⟩
        · have := h.cw
          simp only [List.length_cons]
          split <;> omega
        · rw [List.countP_cons]
          have hmo := h.mo
          by_cases h0 : r ∈ C0
          · simp only [h0, not_true_eq_false, decide_false]
            simp only [Bool.false_eq_true, if_false]
            omega
          · have hC : r ∉ C := fun hx => by rcases h.old r hx with e | e; exact h0 e; exact hrW e
            simp only [h0, not_false_eq_true, decide_true, if_true, hC, if_false]
            omega
        · rcases hDo x hx with ex | ex
          · subst ex; exact .inr (by simp)
          · rcases h.old x ex with e | e
            · exact .inl e
            · exact .inr (by simp [e])
    obtain ⟨W', k1, k2, k3, k4, k5, k6⟩ := key
    by_cases hend : c + (if r ∈ P then 0 else 1) < a
    · have := race hb hq hba rs _ D C0 W' p _ _ hs ⟨hok, h.c0, h.b0, h.pin, k1, k2, k3, k4, hend, k5, k6⟩ al
      have e1 : (if r ∈ P then 0 else 1) + misses (go id (fun P r _ => lruS a P r) (lruS a P r) rs).1 + c + 1 = misses (go id (fun P r _ => lruS a P r) (lruS a P r) rs).1 + (c + (if r ∈ P then 0 else 1)) + 1 := by omega
      have e2 : (if r ∈ C then 0 else 1) + misses hs + o + 1 = misses hs + (o + (if r ∈ C then 0 else 1)) + 1 := by omega
      rw [e1, e2]
      exact this
    · have hca : c + (if r ∈ P then 0 else 1) = a := by have := h.ca; split at hend <;> rename_i hp <;> simp only [hp, if_true, if_false] <;> omega
      have := race hb hq hba rs _ D D [] r 0 0 hs (Phase.fresh ha hok (lru_ends P r) hD hDb hrD) al
      have few : W'.length + 1 ≤ b + (o + (if r ∈ C then 0 else 1)) := by
        have h1 : (W'.filter (fun x => decide (x ∈ C0))).length ≤ (C0.erase p).length := by
          refine sub_len _ _ (k1.sublist List.filter_sublist) fun x hx => ?_
          rw [List.mem_filter] at hx
          exact (List.mem_erase_of_ne (fun (e : x = p) => k2 (e ▸ hx.1))).2 (by simpa using hx.2)
        have h2 := List.length_erase_of_mem h.pin
        have h3 := List.length_pos_of_mem h.pin
        have h4 : W'.length = W'.countP (fun x => decide (x ∈ C0)) + W'.countP (fun x => decide (x ∉ C0)) := by
          have := List.length_eq_countP_add_countP (fun x => decide (x ∈ C0)) (l := W')
          simpa using this
        rw [← List.countP_eq_length_filter] at h1
        have := h.b0
        omega
      have e1 : (if r ∈ P then 0 else 1) + misses (go id (fun P r _ => lruS a P r) (lruS a P r) rs).1 + c + 1 = (misses (go id (fun P r _ => lruS a P r) (lruS a P r) rs).1 + 0 + 1) + a := by omega
      have e2 : (if r ∈ C then 0 else 1) + misses hs + o + 1 = (misses hs + 0 + 1) + (o + (if r ∈ C then 0 else 1)) := by omega
      rw [e1, e2, Nat.add_mul _ a, Nat.mul_add a]
      have h9 : a * q ≤ a * (o + (if r ∈ C then 0 else 1)) := Nat.mul_le_mul_left _ (by omega)
      omega

theorem race_all {a b q : Nat} (hb : 1 ≤ b) (hq : q + b = a + 1) (hba : b ≤ a) (refs : List Int) (hs : List Bool) (al : Alg b [] refs hs) :
    misses (go id (fun P r _ => lruS a P r) [] refs).1 * q ≤ a * misses hs + b * q := by
  cases al with
  | nil => simp [go, misses]
  | cons _ D r rs hs hD hDb hrD hDo al =>
    have ha : 1 ≤ a := by omega
    have h := race hb hq hba rs _ D D [] r 0 0 hs (Phase.fresh ha ((lru_keeps ha).next [] r rs (Ok.nil a)) (lru_ends [] r) hD hDb hrD) al
    have e1 : misses (go id (fun P r _ => lruS a P r) [] (r :: rs)).1 = misses (go id (fun P r _ => lruS a P r) (lruS a [] r) rs).1 + 1 := by
      show misses (decide (r ∈ ([] : List Int)) :: _) = _
      simp [misses]
    have e2 : misses (decide (r ∈ ([] : List Int)) :: hs) = misses hs + 1 := by simp [misses]
    rw [e1, e2]
    exact h

/-! ### What a pool does with two functions handed in -/
/-- goes: which page goes, and how all stands behind it; asked: what is heard of a page that was asked for. -/
structure Rule (S : Type) where
  goes : S → List Int → List Int → S × List Int × Nat
  asked : S → List Int → Nat → S × List Int
def Rule.step {S : Type} (R : Rule S) (k : Nat) (s : S × List Int) (r : Int) (rest : List Int) : S × List Int :=
  if r ∈ s.2 then R.asked s.1 s.2 (s.2.idxOf r)
  else if s.2.length < k then R.asked s.1 (s.2 ++ [r]) s.2.length
  else R.asked (R.goes s.1 s.2 rest).1 ((R.goes s.1 s.2 rest).2.1.set (R.goes s.1 s.2 rest).2.2 r) (R.goes s.1 s.2 rest).2.2
def Rule.run {S : Type} (R : Rule S) (k : Nat) (s : S × List Int) (refs : List Int) : List Bool × (S × List Int) := go (fun s => s.2) (R.step k) s refs
def fifoR : Rule Unit := ⟨fun s P _ => (s, behind P 0, P.length - 1), fun s P _ => (s, P)⟩
def lruR : Rule Unit := ⟨fun s P _ => (s, behind P 0, P.length - 1), fun s P k => (s, behind P k)⟩
def bestR : Rule Unit := ⟨fun s P rest => (s, behind P (fm P rest), P.length - 1), fun s P _ => (s, P)⟩

theorem behind_len {P : List Int} {k : Nat} (hk : k < P.length) : (behind P k).length = P.length := by
  unfold behind
  rw [List.length_append, List.length_eraseIdx_of_lt hk, List.getElem?_eq_getElem hk]
  simp
  omega
theorem behind_set {P : List Int} {k : Nat} (hk : k < P.length) (r : Int) : (behind P k).set (P.length - 1) r = P.eraseIdx k ++ [r] := by
  unfold behind
  rw [List.set_append_right _ _ (by rw [List.length_eraseIdx_of_lt hk]; omega), List.length_eraseIdx_of_lt hk, List.getElem?_eq_getElem hk]
  simp
theorem behind_last {P : List Int} {r : Int} : behind (P ++ [r]) P.length = P ++ [r] := by
  unfold behind
  rw [List.eraseIdx_append_of_length_le (Nat.le_refl _)]
  simp
theorem behind_idx {P : List Int} {r : Int} (h : r ∈ P) : behind P (P.idxOf r) = P.erase r ++ [r] := by
  unfold behind
  have hlt := List.idxOf_lt_length_of_mem h
  rw [List.getElem?_eq_getElem hlt, List.getElem_idxOf hlt, List.erase_eq_eraseIdx_of_idxOf]
  · rfl
  · rfl
theorem go_same {S T : Type} {pg : S → List Int} {qg : T → List Int} {f : S → Int → List Int → S} {g : T → Int → List Int → T} (I : S → T → Prop) (hp : ∀ s t, I s t → pg s = qg t) (hs : ∀ s t r rs, I s t → I (f s r rs) (g t r rs)) :
    ∀ (refs : List Int) (s : S) (t : T), I s t → (go pg f s refs).1 = (go qg g t refs).1 ∧ I (go pg f s refs).2 (go qg g t refs).2
  | [], _, _, h => ⟨rfl, h⟩
  | r :: rs, s, t, h => by
    have ih := go_same I hp hs rs _ _ (hs s t r rs h)
    refine ⟨?_, ih.2⟩
    show decide (r ∈ pg s) :: _ = decide (r ∈ qg t) :: _
    rw [hp s t h, ih.1]
theorem fifo_run {k : Nat} (hk : 1 ≤ k) (refs : List Int) : (fifoR.run k ((), []) refs).1 = (go id (fun P r _ => fifoS k P r) [] refs).1 ∧ (fifoR.run k ((), []) refs).2.2 = (go id (fun P r _ => fifoS k P r) [] refs).2 := by
  refine go_same (fun (s : Unit × List Int) t => s.2 = t) (fun s t h => h) (fun s t r rs h => ?_) refs _ _ rfl
  subst h
  obtain ⟨_, P⟩ := s
  show (fifoR.step k _ r rs).2 = fifoS k P r
  unfold Rule.step fifoS
  by_cases hr : r ∈ P
  · simp [hr, fifoR]
  · by_cases hl : P.length < k
    · simp [hr, hl, fifoR]
    · simp only [hr, hl, if_false, fifoR]
      exact behind_set (by omega) r
theorem lru_run {k : Nat} (hk : 1 ≤ k) (refs : List Int) : (lruR.run k ((), []) refs).1 = (go id (fun P r _ => lruS k P r) [] refs).1 ∧ (lruR.run k ((), []) refs).2.2 = (go id (fun P r _ => lruS k P r) [] refs).2 := by
  refine go_same (fun (s : Unit × List Int) t => s.2 = t) (fun s t h => h) (fun s t r rs h => ?_) refs _ _ rfl
  subst h
  obtain ⟨_, P⟩ := s
  show (lruR.step k _ r rs).2 = lruS k P r
  unfold Rule.step lruS
  by_cases hr : r ∈ P
  · simp only [hr, if_true, lruR]
    exact behind_idx hr
  · by_cases hl : P.length < k
    · simp only [hr, hl, if_false, if_true, lruR]
      exact behind_last
    · simp only [hr, hl, if_false, lruR]
      have hp : 0 < P.length := by omega
      rw [behind_set hp r]
      have : P.length - 1 = (P.eraseIdx 0).length := by rw [List.length_eraseIdx_of_lt hp]
      rw [this]
      exact behind_last
theorem best_run {k : Nat} (hk : 1 ≤ k) (refs : List Int) : (bestR.run k ((), []) refs).1 = (go id (bestS k) [] refs).1 ∧ (bestR.run k ((), []) refs).2.2 = (go id (bestS k) [] refs).2 := by
  refine go_same (fun (s : Unit × List Int) t => s.2 = t) (fun s t h => h) (fun s t r rs h => ?_) refs _ _ rfl
  subst h
  obtain ⟨_, P⟩ := s
  show (bestR.step k _ r rs).2 = bestS k P r rs
  unfold Rule.step bestS
  by_cases hr : r ∈ P
  · simp [hr, bestR]
  · by_cases hl : P.length < k
    · simp [hr, hl, bestR]
    · simp only [hr, hl, if_false, bestR]
      exact behind_set (fm_is rs (fun e => by subst e; simp at hl; omega)).lt r

/-! ### Clock -/
/-- The hand goes on as long as the page there is marked. -/
def sweep (n : Nat) : Nat → List Bool → Nat → List Bool × Nat
  | 0, m, h => (m, h)
  | f + 1, m, h => if m[h]? = some true then sweep n f (m.set h false) ((h + 1) % n) else (m, h)
def swept (n : Nat) (m : List Bool) (h : Nat) : List Bool × Nat := sweep n (m.countP id) m h
theorem count_set {m : List Bool} {h : Nat} (hm : m[h]? = some true) : m.countP id = (m.set h false).countP id + 1 := by
  induction m generalizing h with
  | nil => simp at hm
  | cons b m ih =>
    cases h with
    | zero => simp at hm; subst hm; simp
    | succ h =>
      have := ih (h := h) (by simpa using hm)
      simp only [List.set_cons_succ, List.countP_cons]
      omega
theorem swept_on {n : Nat} {m : List Bool} {h : Nat} (hm : m[h]? = some true) : swept n m h = swept n (m.set h false) ((h + 1) % n) := by
  unfold swept
  rw [count_set hm, sweep, if_pos hm]
theorem swept_end {n : Nat} {m : List Bool} {h : Nat} (hm : m[h]? ≠ some true) : swept n m h = (m, h) := by
  unfold swept
  cases m.countP id with
  | zero => rfl
  | succ f => rw [sweep, if_neg hm]
theorem swept_lt {n : Nat} (hn : 0 < n) : ∀ (f : Nat) (m : List Bool) (h : Nat), h < n → (sweep n f m h).2 < n
  | 0, _, _, hh => hh
  | f + 1, m, h, hh => by
    rw [sweep]
    split
    · exact swept_lt hn f _ _ (Nat.mod_lt _ hn)
    · exact hh
theorem sweep_len {n : Nat} : ∀ (f : Nat) (m : List Bool) (h : Nat), (sweep n f m h).1.length = m.length
  | 0, _, _ => rfl
  | f + 1, m, h => by
    rw [sweep]
    split
    · rw [sweep_len f]; simp
    · rfl
/-- Marks and the hand. -/
def clockR : Rule (List Bool × Nat) := ⟨fun s P _ => (((swept P.length s.1 s.2).1, ((swept P.length s.1 s.2).2 + 1) % P.length), P, (swept P.length s.1 s.2).2), fun s P k => ((s.1.set k true, s.2), P)⟩
structure ClockOk (k : Nat) (s : (List Bool × Nat) × List Int) : Prop where
  ok : Ok k s.2
  hand : s.1.2 < k
theorem clock_keeps {k : Nat} (hk : 1 ≤ k) : Keeps k (fun s => s.2) (clockR.step k) (ClockOk k) := by
  have hset : ∀ (P : List Int) (r : Int) (j : Nat), j < P.length → P.Nodup → r ∉ P → (P.set j r).Nodup := by
    intro P r j hj hn hr
    have e : P.set j r = P.take j ++ r :: P.drop (j + 1) := by rw [List.set_eq_take_append_cons_drop, if_pos hj]
    rw [e, List.perm_middle.nodup_iff, List.nodup_cons, ← List.eraseIdx_eq_take_drop_succ]
    exact ⟨fun h => hr (List.mem_of_mem_eraseIdx h), hn.sublist (List.eraseIdx_sublist _ _)⟩
  refine ⟨fun _ h => h.ok.nodup, fun _ h => h.ok.room, fun s r rs h => ?_, fun s r rs h => ?_, fun s r rs h x hx => ?_⟩
  · obtain ⟨⟨m, hd⟩, P⟩ := s
    obtain ⟨ho, hh⟩ := h
    simp only at ho hh
    unfold Rule.step
    by_cases hr : r ∈ P
    · simp only [hr, if_true, clockR]; exact ⟨ho, hh⟩
    · by_cases hl : P.length < k
      · simp only [hr, hl, if_false, if_true, clockR]; exact ⟨ok_snoc ho.nodup hr hl, hh⟩
      · have e : P.length = k := by have := ho.room; omega
        simp only [hr, hl, if_false, clockR]
        have hsw : (swept P.length m hd).2 < P.length := swept_lt (by omega) _ _ _ (by omega)
        refine ⟨⟨hset P r _ hsw ho.nodup hr, by simp; omega⟩, ?_⟩
        rw [← e]
        exact Nat.mod_lt _ (by omega)
  · obtain ⟨⟨m, hd⟩, P⟩ := s
    obtain ⟨ho, hh⟩ := h
    simp only at ho hh
    unfold Rule.step
    by_cases hr : r ∈ P
    · simp [hr, clockR]
    · by_cases hl : P.length < k
      · simp [hr, hl, clockR]
      · have e : P.length = k := by have := ho.room; omega
        simp only [hr, hl, if_false, clockR]
        exact List.mem_set (swept_lt (by omega) _ _ _ (by omega)) _
  · obtain ⟨⟨m, hd⟩, P⟩ := s
    unfold Rule.step at hx
    by_cases hr : r ∈ P
    · simp only [hr, if_true, clockR] at hx; exact .inr hx
    · by_cases hl : P.length < k
      · simp only [hr, hl, if_false, if_true, clockR] at hx
        rcases List.mem_append.1 hx with e | e
        · exact .inr e
        · exact .inl (by simpa using e)
      · simp only [hr, hl, if_false, clockR] at hx
        exact (List.mem_or_eq_of_mem_set hx).symm

end Pl
end Go.Proofs.YtbgcldckgiiedacDoor.PPool
