/- Two runs are the same transaction by transaction just if each transaction's operations are the same, in order, in plain words (no program in it); where a transaction's n-th operation stands. Conditions: the transactions' numbers are those of twelve. -/
import Derived.Test.YtlalpahfoafhoabSeeNum
namespace Go.Proofs.Ytlalpahfoafhoab.PSee
open PGraph PRun
namespace Se

theorem own_in {X Y : List Rn.Op} (h : Rn.same X Y = true) {t n : Nat} {o : Rn.Op} (ho : (Rn.own X t)[n]? = some o) : (Rn.own Y t)[n]? = some o := by
  unfold Rn.same at h
  obtain ⟨_, S⟩ := (Bool.and_eq_true _ _ ▸ h : _ ∧ _)
  have hn : n < (Rn.plc X t).length := by rw [Rn.plc_len]; exact (List.getElem?_eq_some_iff.1 ho).1
  have hp := List.getElem?_eq_getElem hn
  obtain ⟨u, h1, h2⟩ := Rn.plc_at hp
  rw [ho] at h2
  injection h2 with h2
  subst h2
  have hx : o.x = t := (Rn.own_mem.1 (List.mem_of_getElem? ho)).2
  obtain ⟨q, h3, h4⟩ := (Rn.hitB_iff h1).1 (Rn.sameTo_le S (List.getElem?_eq_some_iff.1 h1).1)
  have e : o.x.toNat = t := by omega
  rw [e, rank_at hp h1 hx] at h3
  obtain ⟨v, h5, h6⟩ := Rn.plc_at h3
  rw [h4] at h5
  rw [h6, ← h5]
theorem own_len_le {X Y : List Rn.Op} (h : ∀ (t n : Nat) (o : Rn.Op), (Rn.own X t)[n]? = some o → (Rn.own Y t)[n]? = some o) (t : Nat) : (Rn.own X t).length ≤ (Rn.own Y t).length := by
  rcases Nat.lt_or_ge (Rn.own Y t).length (Rn.own X t).length with hlt | hge
  · have := h t (Rn.own Y t).length _ (List.getElem?_eq_getElem hlt)
    have := (List.getElem?_eq_some_iff.1 this).1
    omega
  · exact hge
theorem turn_len_le {X Y : List Rn.Op} (h : ∀ t, (Rn.own X t).length ≤ (Rn.own Y t).length) : ∀ s : List Nat, (Rn.turn X s).length ≤ (Rn.turn Y s).length
  | [] => Nat.le_refl _
  | u :: s => by
    have e1 : Rn.turn X (u :: s) = Rn.own X u ++ Rn.turn X s := rfl
    have e2 : Rn.turn Y (u :: s) = Rn.own Y u ++ Rn.turn Y s := rfl
    rw [e1, e2, List.length_append, List.length_append]
    have := turn_len_le h s
    have := h u
    omega
theorem turn_len_eq {X Y : List Rn.Op} (h : ∀ t, (Rn.own X t).length ≤ (Rn.own Y t).length) : ∀ s : List Nat, (Rn.turn X s).length = (Rn.turn Y s).length → ∀ t ∈ s, (Rn.own X t).length = (Rn.own Y t).length
  | [], _, t, ht => by cases ht
  | u :: s, e, t, ht => by
    have e1 : Rn.turn X (u :: s) = Rn.own X u ++ Rn.turn X s := rfl
    have e2 : Rn.turn Y (u :: s) = Rn.own Y u ++ Rn.turn Y s := rfl
    rw [e1, e2, List.length_append, List.length_append] at e
    have h1 := turn_len_le h s
    have h2 := h u
    rcases List.mem_cons.1 ht with rfl | ht
    · omega
    · exact turn_len_eq h s (by omega) t ht
theorem turn_all {X : List Rn.Op} (hX : ∀ o ∈ X, 0 ≤ o.x ∧ o.x < 12) : (Rn.turn X (List.range 12)).length = X.length :=
  Rn.turn_len _ X List.nodup_range fun o ho => ⟨o.x.toNat, List.mem_range.2 (by have := hX o ho; omega), by have := hX o ho; omega⟩
theorem same_own {X Y : List Rn.Op} (hX : ∀ o ∈ X, 0 ≤ o.x ∧ o.x < 12) (hY : ∀ o ∈ Y, 0 ≤ o.x ∧ o.x < 12) (h : Rn.same X Y = true) {t : Nat} (ht : t < 12) : Rn.own X t = Rn.own Y t := by
  have hin := fun (t n : Nat) (o : Rn.Op) (ho : (Rn.own X t)[n]? = some o) => own_in h ho
  have hl : X.length = Y.length := by
    unfold Rn.same at h
    exact of_decide_eq_true (Bool.and_eq_true _ _ ▸ h : _ ∧ _).1
  have he := turn_len_eq (own_len_le hin) (List.range 12) (by rw [turn_all hX, turn_all hY, hl]) t (List.mem_range.2 ht)
  apply List.ext_getElem?
  intro n
  cases ho : (Rn.own X t)[n]? with
  | some o => exact (hin t n o ho).symm
  | none =>
    have := List.getElem?_eq_none_iff.1 ho
    exact (List.getElem?_eq_none (by omega)).symm
theorem own_same {X Y : List Rn.Op} (hX : ∀ o ∈ X, 0 ≤ o.x ∧ o.x < 12) (hY : ∀ o ∈ Y, 0 ≤ o.x ∧ o.x < 12) (h : ∀ t, t < 12 → Rn.own X t = Rn.own Y t) : Rn.same X Y = true := by
  have hl : X.length = Y.length := by
    rw [← turn_all hX, ← turn_all hY, Rn.turn_congr fun t ht => h t (List.mem_range.1 ht)]
  refine Rn.same_of hl fun j o ho => ?_
  have hx := hX o (List.mem_of_getElem? ho)
  have e : o.x = (o.x.toNat : Nat) := by omega
  have hr := Rn.own_rank ho e
  rw [h o.x.toNat (by omega)] at hr
  have hn : Rn.rank X j o.x.toNat < (Rn.plc Y o.x.toNat).length := by rw [Rn.plc_len]; exact (List.getElem?_eq_some_iff.1 hr).1
  have hp := List.getElem?_eq_getElem hn
  obtain ⟨u, h1, h2⟩ := Rn.plc_at hp
  rw [hr] at h2
  injection h2 with h2
  exact ⟨_, hp, by rw [h1, h2]⟩
def ownEq (X Y : List Rn.Op) (k : Nat) : Bool := (List.range k).all fun t => decide (Rn.own X t = Rn.own Y t)
theorem ownEq_next (X Y : List Rn.Op) (k : Nat) : ownEq X Y (k + 1) = (ownEq X Y k && decide (Rn.own X k = Rn.own Y k)) := by simp [ownEq, List.range_succ]
theorem ownEq_not {X Y : List Rn.Op} {k : Nat} (hk : k < 12) (h : ¬ Rn.own X k = Rn.own Y k) : ownEq X Y 12 = false := by
  apply Bool.eq_false_iff.2
  intro ha
  exact h (of_decide_eq_true (List.all_eq_true.1 ha k (List.mem_range.2 hk)))
theorem same_ownEq {X Y : List Rn.Op} (hX : ∀ o ∈ X, 0 ≤ o.x ∧ o.x < 12) (hY : ∀ o ∈ Y, 0 ≤ o.x ∧ o.x < 12) : Rn.same X Y = ownEq X Y 12 := by
  apply Bool.eq_iff_iff.2
  constructor
  · intro h
    exact List.all_eq_true.2 fun t ht => decide_eq_true (same_own hX hY h (List.mem_range.1 ht))
  · intro h
    exact own_same hX hY fun t ht => of_decide_eq_true (List.all_eq_true.1 h t (List.mem_range.2 ht))
/-- Where a transaction's n-th operation stands; -1: nowhere. -/
def nthI (X : List Rn.Op) (t n : Nat) : Int := wrN ((Rn.plc X t)[n]?)
theorem nthI_at {X : List Rn.Op} {t i : Nat} {o : Rn.Op} (ho : X[i]? = some o) (hx : o.x = t) : nthI X t (Rn.rank X i t) = (i : Int) := by
  unfold nthI
  rw [Rn.plc_rank ho hx]; rfl
theorem nthI_none {X : List Rn.Op} {t n : Nat} (h : Rn.rank X X.length t ≤ n) : nthI X t n = -1 := by
  unfold nthI
  rw [List.getElem?_eq_none (by rw [Rn.plc_len]; unfold Rn.rank at h; rwa [List.take_length] at h)]
  rfl
theorem nthI_img {X Y : List Rn.Op} (h : Rn.same X Y = true) {i : Nat} {o : Rn.Op} (ho : X[i]? = some o) : nthI Y o.x.toNat (Rn.rank X i o.x.toNat) = (Rn.img X Y i : Nat) := by
  unfold Rn.same at h
  obtain ⟨_, S⟩ := (Bool.and_eq_true _ _ ▸ h : _ ∧ _)
  obtain ⟨q, h3, _⟩ := (Rn.hitB_iff ho).1 (Rn.sameTo_le S (List.getElem?_eq_some_iff.1 ho).1)
  unfold nthI
  rw [h3, Rn.img_at ho h3]
  rfl
/-- None of the pairs that are looked at so far is tangled. -/
def Free (X : List Rn.Op) (f : Nat → Nat) (i k : Nat) : Prop := ∀ a b, (a < i ∨ (a = i ∧ b < k)) → a < b → b < X.length → Rn.tangled X f a b = false
theorem Free.none (X : List Rn.Op) (f : Nat → Nat) : Free X f 0 0 := fun a b h => by omega
theorem Free.start {X : List Rn.Op} {f : Nat → Nat} {i : Nat} (h : Free X f i 0) : Free X f i (i + 1) := fun a b h1 h2 h3 => h a b (by omega) h2 h3
theorem Free.next {X : List Rn.Op} {f : Nat → Nat} {i k : Nat} (h : Free X f i k) (ht : Rn.tangled X f i k = false) : Free X f i (k + 1) := fun a b h1 h2 h3 => by
  by_cases e : a = i ∧ b = k
  · obtain ⟨rfl, rfl⟩ := e; exact ht
  · exact h a b (by omega) h2 h3
theorem Free.round {X : List Rn.Op} {f : Nat → Nat} {i k : Nat} (h : Free X f i k) (hk : X.length ≤ k) : Free X f (i + 1) 0 := fun a b h1 h2 h3 => h a b (by omega) h2 h3
theorem Free.all {X : List Rn.Op} {f : Nat → Nat} {i : Nat} (h : Free X f i 0) (hi : X.length ≤ i) : Rn.keeps X f = true := by
  refine Rn.keeps_iff.2 fun a b p q hab hp hq hc => ?_
  have hb := (List.getElem?_eq_some_iff.1 hq).1
  have := h a b (by omega) hab hb
  rw [Rn.tangled_at hp hq, hc] at this
  simpa using this
theorem tangled_not {X : List Rn.Op} {f : Nat → Nat} {i k : Nat} (hik : i < k) (hk : k < X.length) (h : Rn.tangled X f i k = true) : Rn.keeps X f = false := Rn.keepsTo_not hk hik h
end Se
end Go.Proofs.Ytlalpahfoafhoab.PSee
