/- A region that draws its order and has two phases: first whatever of the first p operations, then whatever of the others. -/
import Derived.OrdersHeld
import Derived.Deep.RegionHeld3
namespace Go.Proofs.Ythfpinjegfgeiaa
open Go

/-- The first p wait for earlier ones alone and have no guard; each other waits, by itself or by way of such a one, for all of the first p that L0 does not list. -/
def phased (ops : Array Oper) (p : Nat) (L0 : Array Bool) : Bool :=
  ((List.range ops.size).all fun j => match ops[j]? with
    | none => false
    | some o => if j < p then o.guard.isNone && o.after.all (fun e => !Region.binds .any e || decide (e.on < j)) else
      (List.range p).all fun i => L0.getD i false || o.after.any (fun e => Region.binds .any e && e.on == i) ||
        (List.range p).any fun k => decide (i < k) && !L0.getD k false && match ops[k]? with
          | none => false
          | some q => q.after.any fun e => Region.binds .any e && e.on == i)

/-- Whatever is listed, what it waits for is listed. -/
def closedB (ops : Array Oper) (L : Array Bool) : Bool :=
  (List.range ops.size).all fun i => !L.getD i false || match ops[i]? with
    | none => true
    | some o => o.after.all fun e => !Region.binds .any e || L.getD e.on false

def firstOf (ops : Array Oper) (p : Nat) : Array Oper := (ops.toList.take p).toArray

section
variable {P : Program} {ops : Array Oper} {Q : Exit → Act → World → Prop}

/-- What is to hold behind the first phase. -/
def thenRest (P : Program) (ops : Array Oper) (p : Nat) (Q : Exit → Act → World → Prop) : Exit → Act → World → Prop
  | .normal, a, w => wpAny P .any ops Q (ops.size - p) (Array.replicate p true ++ Array.replicate (ops.size - p) false) a w
  | e, a, w => Q e a w

theorem Oper.wp_q {o : Oper} {a : Act} {w : World} {K : Act → World → Prop} {Q Q' : Exit → Act → World → Prop} (h : ∀ c a w, Q (.panic c) a w → Q' (.panic c) a w) (h2 : LetsOut Q → LetsOut Q') (hh : o.wp P a w K Q) : o.wp P a w K Q' := by
  unfold Oper.wp at *
  generalize (execOp a.eval o).run P w = r at *
  cases r with
  | ok n w' =>
    cases n <;> simp only [Oper.upon] at hh ⊢
    case value u => exact hh
    case skip => exact hh
    case defer d => exact hh
    case enter f args =>
      refine Calls.mono hh fun e w'' he => ?_
      cases e with
      | returned u => exact he
      | panicked c => exact h _ _ _ he
      | outgrown => exact h2 he
    case row row args => exact hh
  | halt x w' =>
    cases x <;> simp only [Oper.upon] at hh ⊢
    case panic u => exact h _ _ _ hh

theorem wpAny_more (md : Region.Mode) : ∀ (fuel : Nat) (L : Array Bool) (a : Act) (w : World), wpAny P md ops Q fuel L a w → wpAny P md ops Q (fuel + 1) L a w
  | 0, L, a, w, h => ⟨fun _ => h.2, fun i hi => by rw [h.1] at hi; cases hi⟩
  | fuel + 1, L, a, w, h => ⟨h.1, fun i hi => wpOp_mono (fun a' w' h' => wpAny_more md fuel _ a' w' h') (h.2 i hi)⟩

theorem wpAny_much (md : Region.Mode) (fuel : Nat) (L : Array Bool) (a : Act) (w : World) (h : wpAny P md ops Q fuel L a w) : ∀ k, wpAny P md ops Q (k + fuel) L a w
  | 0 => by rw [Nat.zero_add]; exact h
  | k + 1 => by rw [show k + 1 + fuel = k + fuel + 1 by omega]; exact wpAny_more md _ _ _ _ (wpAny_much md fuel L a w h k)

theorem phased_early {p : Nat} {L0 : Array Bool} (h : phased ops p L0 = true) {j : Nat} {o : Oper} (hj : ops[j]? = some o) (hp : j < p) : o.guard = none ∧ ∀ e ∈ o.after, Region.binds .any e = true → e.on < j := by
  unfold phased at h
  have h1 := List.all_eq_true.1 h j (List.mem_range.2 (Array.getElem?_eq_some_iff.1 hj).1)
  simp only [hj, hp, if_true, Bool.and_eq_true] at h1
  refine ⟨by simpa using h1.1, fun e he hb => ?_⟩
  have := Array.all_eq_true_iff_forall_mem.1 h1.2 e he
  rw [hb] at this
  simpa using this

theorem phased_late {p : Nat} {L0 : Array Bool} (h : phased ops p L0 = true) {j : Nat} {o : Oper} (hj : ops[j]? = some o) (hp : ¬ j < p) (i : Nat) (hi : i < p) :
    L0.getD i false = true ∨ (∃ e ∈ o.after, Region.binds .any e = true ∧ e.on = i) ∨ ∃ k, i < k ∧ k < p ∧ ∃ q, ops[k]? = some q ∧ ∃ e ∈ q.after, Region.binds .any e = true ∧ e.on = i := by
  unfold phased at h
  have h1 := List.all_eq_true.1 h j (List.mem_range.2 (Array.getElem?_eq_some_iff.1 hj).1)
  simp only [hj, hp, if_false] at h1
  have h2 := List.all_eq_true.1 h1 i (List.mem_range.2 hi)
  rw [Bool.or_eq_true, Bool.or_eq_true] at h2
  rcases h2 with (h2 | h2) | h2
  · exact .inl h2
  · obtain ⟨e, he, hb⟩ := Array.any_eq_true'.1 h2
    simp only [Bool.and_eq_true, beq_iff_eq] at hb
    exact .inr (.inl ⟨e, he, hb.1, hb.2⟩)
  · obtain ⟨k, hk, hb⟩ := List.any_eq_true.1 h2
    rw [Bool.and_eq_true, Bool.and_eq_true] at hb
    have hik : i < k := by simpa using hb.1.1
    cases hq : ops[k]? with
    | none => rw [hq] at hb; simp at hb
    | some q =>
      rw [hq] at hb
      obtain ⟨e, he, hb2⟩ := Array.any_eq_true'.1 hb.2
      simp only [Bool.and_eq_true, beq_iff_eq] at hb2
      exact .inr (.inr ⟨k, hik, List.mem_range.1 hk, q, hq, e, he, hb2.1, hb2.2⟩)

theorem firstOf_at (p i : Nat) (hi : i < p) : (firstOf ops p)[i]? = ops[i]? := by
  unfold firstOf
  rw [List.getElem?_toArray, List.getElem?_take, if_pos hi, Array.getElem?_toList]

/-- Where nothing of the first phase may come up, all of it has. -/
theorem all_listed {p : Nat} {L0 : Array Bool} (h : phased ops p L0 = true) (hp : p ≤ ops.size) (L : Array Bool) (hL : L.size = p) (hr : Region.ready .any (firstOf ops p) L = []) : L = Array.replicate p true := by
  have key : ∀ j, j < p → L[j]? = some true := by
    intro j
    induction j using Nat.strongRecOn with
    | ind j ih =>
      intro hj
      by_cases hl : L[j]? = some true
      · exact hl
      · exfalso
        have hjs : j < ops.size := by omega
        have hmem : j ∈ Region.ready .any (firstOf ops p) L := by
          rw [mem_ready]
          refine ⟨?_, ops[j], by rw [firstOf_at p j hj]; exact Array.getElem?_eq_getElem hjs, ?_⟩
          · have hjL : j < L.size := by omega
            rw [Array.getD_eq_getD_getElem?, Array.getElem?_eq_getElem hjL] at *
            simp only [Option.getD_some]
            cases hv : L[j] with
            | false => rfl
            | true => rw [hv] at hl; exact absurd rfl hl
          · intro e he hb
            have hlt := (phased_early h (Array.getElem?_eq_getElem hjs) hj).2 e he hb
            have := ih e.on hlt (by omega)
            rw [Array.getD_eq_getD_getElem?, this]
            rfl
        rw [hr] at hmem
        cases hmem
  apply Array.ext
  · simp [hL]
  · intro j h1 h2
    have := key j (by omega)
    rw [Array.getElem?_eq_getElem h1] at this
    simp only [Array.getElem_replicate]
    exact Option.some.inj this

/-- What is listed waits for what is listed. -/
def Closed (ops : Array Oper) (L : Array Bool) : Prop := ∀ i o, ops[i]? = some o → L.getD i false = true → ∀ e ∈ o.after, Region.binds .any e = true → L.getD e.on false = true
theorem closed_of {L : Array Bool} (h : closedB ops L = true) : Closed ops L := by
  intro i o ho hl e he hb
  unfold closedB at h
  have h1 := List.all_eq_true.1 h i (List.mem_range.2 (Array.getElem?_eq_some_iff.1 ho).1)
  rw [ho, hl] at h1
  simp only [Bool.not_true, Bool.false_or] at h1
  have := Array.all_eq_true_iff_forall_mem.1 h1 e he
  rw [hb] at this
  simpa using this
theorem getD_set_some {L : Array Bool} {i j : Nat} (h : L.getD j false = true) : (L.setIfInBounds i true).getD j false = true := getD_set_true h
theorem closed_set {L : Array Bool} (h : Closed ops L) {i : Nat} {o : Oper} (ho : ops[i]? = some o) (ha : ∀ e ∈ o.after, Region.binds .any e = true → L.getD e.on false = true) : Closed ops (L.setIfInBounds i true) := by
  intro j q hq hl e he hb
  by_cases e1 : i = j
  · subst e1
    rw [ho] at hq
    injection hq with hq
    subst hq
    exact getD_set_some (ha e he hb)
  · rw [getD_set_ne false e1] at hl
    exact getD_set_some (h j q hq hl e he hb)

theorem getD_left (L : Array Bool) (k : Nat) (j : Nat) (d : Bool) (hj : j < L.size) : (L ++ Array.replicate k false).getD j d = L.getD j d := by
  rw [Array.getD_eq_getD_getElem?, Array.getD_eq_getD_getElem?, Array.getElem?_append_left hj]

theorem wpAny_phase {p : Nat} {L0 : Array Bool} (h : phased ops p L0 = true) (hp : p ≤ ops.size) : ∀ (fuel : Nat) (L : Array Bool) (a : Act) (w : World), L.size = p → Closed ops L → (∀ i, L0.getD i false = true → L.getD i false = true) →
    wpAny P .any (firstOf ops p) (thenRest P ops p Q) fuel L a w → wpAny P .any ops Q (fuel + (ops.size - p)) (L ++ Array.replicate (ops.size - p) false) a w
  | 0, L, a, w, hL, _, _, hh => by
    obtain ⟨hr, hq⟩ := hh
    rw [all_listed h hp L hL hr, Nat.zero_add]
    exact hq
  | fuel + 1, L, a, w, hL, hC, h0L, hh => by
    obtain ⟨h0, h1⟩ := hh
    by_cases hr : Region.ready .any (firstOf ops p) L = []
    · rw [all_listed h hp L hL hr]
      exact wpAny_much .any _ _ _ _ (h0 hr) (fuel + 1)
    · obtain ⟨i0, hi0⟩ : ∃ i, i ∈ Region.ready .any (firstOf ops p) L := List.exists_mem_of_ne_nil _ hr
      have sub : ∀ i, i ∈ Region.ready .any ops (L ++ Array.replicate (ops.size - p) false) → i ∈ Region.ready .any (firstOf ops p) L := by
        intro i hi
        rw [mem_ready] at hi hi0
        obtain ⟨hu, o, ho, ha⟩ := hi
        obtain ⟨hu0, o0, ho0, _⟩ := hi0
        have hi0p : i0 < p := by
          have := (Array.getElem?_eq_some_iff.1 ho0).1
          unfold firstOf at this
          simp at this
          omega
        by_cases hip : i < p
        · rw [mem_ready]
          refine ⟨by rw [getD_left L _ i true (by omega)] at hu; exact hu, o, by rw [firstOf_at p i hip]; exact ho, fun e he hb => ?_⟩
          have := ha e he hb
          have hlt := (phased_early h ho hip).2 e he hb
          rw [getD_left L _ e.on false (by omega)] at this
          exact this
        · exfalso
          have lst : ∀ m k, p - k ≤ m → k < p → L.getD k false = true := by
            intro m
            induction m with
            | zero => intro k h1 h2; omega
            | succ m ih =>
              intro k h1 h2
              rcases phased_late h ho hip k h2 with e | ⟨e, he, hb, hon⟩ | ⟨k', hk1, hk2, q, hq, e, he, hb, hon⟩
              · exact h0L k e
              · have := ha e he hb
                rw [hon, getD_left L _ k false (by omega)] at this
                exact this
              · have := hC k' q hq (ih k' (by omega) hk2) e he hb
                rw [hon] at this
                exact this
          have := lst p i0 (by omega) hi0p
          rw [Array.getD_eq_getD_getElem?] at this hu0
          have hlt : i0 < L.size := by omega
          rw [Array.getElem?_eq_getElem hlt] at this hu0
          simp only [Option.getD_some] at this hu0
          rw [this] at hu0
          cases hu0
      have sup : i0 ∈ Region.ready .any ops (L ++ Array.replicate (ops.size - p) false) := by
        rw [mem_ready] at hi0 ⊢
        obtain ⟨hu0, o0, ho0, ha0⟩ := hi0
        have hi0p : i0 < p := by
          have := (Array.getElem?_eq_some_iff.1 ho0).1
          unfold firstOf at this
          simp at this
          omega
        rw [firstOf_at p i0 hi0p] at ho0
        refine ⟨by rw [getD_left L _ i0 true (by omega)]; exact hu0, o0, ho0, fun e he hb => ?_⟩
        have := ha0 e he hb
        have hlt := (phased_early h ho0 hi0p).2 e he hb
        rw [getD_left L _ e.on false (by omega)]
        exact this
      rw [show fuel + 1 + (ops.size - p) = fuel + (ops.size - p) + 1 by omega]
      refine ⟨fun e => (by rw [e] at sup; cases sup), fun i hi => ?_⟩
      have hi1 := sub i hi
      have hx := h1 i hi1
      rw [mem_ready] at hi1
      obtain ⟨_, o, ho, hao⟩ := hi1
      have hip : i < p := by
        have := (Array.getElem?_eq_some_iff.1 ho).1
        unfold firstOf at this
        simp at this
        omega
      have ho' := ho
      rw [firstOf_at p i hip] at ho'
      have hg := (phased_early h ho' hip).1
      unfold wpOp at hx ⊢
      simp only [ho, ho', Region.wanted, hg, if_true] at hx ⊢
      have step : ∀ a' w', wpAny P .any (firstOf ops p) (thenRest P ops p Q) fuel (L.setIfInBounds i true) a' w' → wpAny P .any ops Q (fuel + (ops.size - p)) ((L ++ Array.replicate (ops.size - p) false).setIfInBounds i true) a' w' := by
        intro a' w' h'
        have := wpAny_phase h hp fuel (L.setIfInBounds i true) a' w' (by simpa using hL) (closed_set hC ho' hao) (fun k hk => getD_set_some (h0L k hk)) h'
        rw [Array.setIfInBounds_append_left (by omega)]
        exact this
      rcases hx with hx | ⟨hx, hl⟩
      · exact .inl (Oper.wp_mono step (Oper.wp_q (fun _ _ _ h => h) (fun h => h) hx))
      · exact .inr ⟨hx, hl⟩

/-- THE LAW: where of the first p those that L0 lists have come up, the others are a region of their own. -/
theorem wpAny_phases (p : Nat) (L0 : Array Bool) {fuel : Nat} {listed : Array Bool} {a : Act} {w : World} (fuel' : Nat) (h : phased ops p L0 = true) (hc : closedB ops L0 = true) (hp : p ≤ ops.size) (hs : L0.size = p)
    (hl : listed = L0 ++ Array.replicate (ops.size - p) false) (hf : fuel = fuel' + (ops.size - p))
    (hh : wpAny P .any (firstOf ops p) (thenRest P ops p Q) fuel' L0 a w) : wpAny P .any ops Q fuel listed a w := by
  subst hl
  subst hf
  exact wpAny_phase h hp fuel' L0 a w hs (closed_of hc) (fun _ h => h) hh
end

end Go.Proofs.Ythfpinjegfgeiaa
