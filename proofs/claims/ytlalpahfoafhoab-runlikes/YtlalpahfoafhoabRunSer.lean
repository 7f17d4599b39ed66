/-
  What commits, in plain words (no program in it): a run without those that do not commit; a run's transactions one behind another in an order. ESWARAN, GRAY, LORIE, TRAIGER; PAPADIMITRIOU: what commits is like the same transactions one behind another in an order of the edges; where these have a loop, it is like no such run. No conditions.
-/
import Derived.Test.YtlalpahfoafhoabRunPlc
namespace Go.Proofs.Ytlalpahfoafhoab.PRun
open PGraph
namespace Rn

/-- A run without those that do not commit. -/
def comm (l : List Op) : List Op := l.filter fun o => com l o.x.toNat
/-- The transactions of a run one behind another. -/
def turn (m : List Op) (s : List Nat) : List Op := s.flatMap (own m)
def serial (l : List Op) : List Nat := ((Gr.order (edges l) 12).getD []).filter (com l)

theorem own_mem {m : List Op} {t : Nat} {o : Op} : o ∈ own m t ↔ o ∈ m ∧ o.x = t := by simp [own]
theorem turn_mem {m : List Op} {s : List Nat} {o : Op} : o ∈ turn m s ↔ ∃ t ∈ s, o ∈ m ∧ o.x = t := by simp [turn, own_mem]
theorem own_filter (c : Nat → Bool) (t : Nat) (l : List Op) (hl : ∀ o ∈ l, 0 ≤ o.x) (hc : c t = true) : own (l.filter fun o => c o.x.toNat) t = own l t := by
  unfold own
  rw [List.filter_filter]
  apply List.filter_congr
  intro o ho
  have := hl o ho
  by_cases h : o.x = t
  · have e : o.x.toNat = t := by omega
    simp [h, hc]
  · simp [h]
theorem ends_own (t : Nat) : ∀ (p : List Op), ends (own p t) t = ends p t
  | [] => rfl
  | o :: p => by
    have ih := ends_own t p
    unfold own at ih ⊢
    by_cases h : o.x = t
    · rw [List.filter_cons_of_pos (by simp [h])]
      simp only [ends, ih]
    · rw [List.filter_cons_of_neg (by simp [h]), ih]
      simp only [ends]
      by_cases hz : ends p t ≠ 0
      · rw [if_pos hz]
      · rw [if_neg hz, if_neg (fun h' => h h'.2)]; exact Classical.not_not.1 hz
theorem ends_none {p : List Op} {t : Nat} (h : ∀ o ∈ p, o.x ≠ t) : ends p t = 0 := ends_zero.2 fun o ho hx => absurd hx (h o ho)

/-- What a part of a list's first ones are, are the whole one's up to a place. -/
theorem filter_at (c : Op → Bool) : ∀ (l : List Op) (j : Nat) (o : Op), (l.filter c)[j]? = some o → ∃ i, l[i]? = some o ∧ (l.take i).filter c = (l.filter c).take j
  | [], j, o, h => by simp at h
  | a :: l, j, o, h => by
    cases hc : c a with
    | true =>
      rw [List.filter_cons_of_pos hc] at h ⊢
      cases j with
      | zero => exact ⟨0, by simpa using h, by simp⟩
      | succ j =>
        obtain ⟨i, h1, h2⟩ := filter_at c l j o (by simpa using h)
        exact ⟨i + 1, by simpa using h1, by rw [List.take_succ_cons, List.filter_cons_of_pos hc, h2, List.take_succ_cons]⟩
    | false =>
      have hn : ¬ c a = true := by rw [hc]; exact Bool.false_ne_true
      rw [List.filter_cons_of_neg hn] at h ⊢
      obtain ⟨i, h1, h2⟩ := filter_at c l j o h
      exact ⟨i + 1, by simpa using h1, by rw [List.take_succ_cons, List.filter_cons_of_neg hn, h2]⟩
theorem comm_mem {l : List Op} {o : Op} : o ∈ comm l ↔ o ∈ l ∧ com l o.x.toNat = true := by simp [comm]
theorem comm_check {l : List Op} (h : check l = 0) : check (comm l) = 0 := by
  refine check_of (Nat.le_trans (List.length_filter_le _ _) (check_zero h).1) fun j o ho => ?_
  have hm := comm_mem.1 (List.mem_of_getElem? ho)
  obtain ⟨i, h1, h2⟩ := filter_at _ l j o ho
  have g := good_at h h1
  refine ⟨g, ?_⟩
  unfold comm
  rw [← h2, ← ends_own, own_filter (com l) _ _ (fun q hq => (good_mem h (List.mem_of_mem_take hq)).x0) hm.2, ends_own]
  exact live_at h h1

/-! ### One behind another -/
theorem own_own {m : List Op} {t u : Nat} : own (own m t) u = if t = u then own m t else [] := by
  unfold own
  rw [List.filter_filter]
  by_cases h : t = u
  · subst h
    rw [if_pos rfl]
    apply List.filter_congr
    intro o _
    cases decide (o.x = (t : Int)) <;> rfl
  · rw [if_neg h]
    apply List.filter_eq_nil_iff.2
    intro o _
    simp only [Bool.and_eq_true, decide_eq_true_eq]
    omega
theorem own_append (X Y : List Op) (t : Nat) : own (X ++ Y) t = own X t ++ own Y t := List.filter_append ..
theorem own_turn_not {m : List Op} {t : Nat} : ∀ (s : List Nat), t ∉ s → own (turn m s) t = []
  | [], _ => rfl
  | u :: s, h => by
    have h1 : ¬ u = t := fun e => h (e ▸ List.mem_cons_self)
    have h2 : t ∉ s := fun e => h (List.mem_cons_of_mem _ e)
    have e : turn m (u :: s) = own m u ++ turn m s := rfl
    rw [e, own_append, own_own, if_neg h1, own_turn_not s h2]; rfl
theorem own_turn {m : List Op} {t : Nat} : ∀ (s : List Nat), s.Nodup → t ∈ s → own (turn m s) t = own m t
  | [], _, h => by simp at h
  | u :: s, hn, h => by
    have e : turn m (u :: s) = own m u ++ turn m s := rfl
    have hn := List.nodup_cons.1 hn
    rw [e, own_append, own_own]
    by_cases hu : u = t
    · subst hu
      rw [if_pos rfl, own_turn_not s hn.1, List.append_nil]
    · rw [if_neg hu, own_turn s hn.2 (by rcases List.mem_cons.1 h with h | h; exact absurd h.symm hu; exact h)]; rfl
theorem len_split (c : Op → Bool) : ∀ (m : List Op), m.length = (m.filter c).length + (m.filter fun o => !c o).length
  | [] => rfl
  | o :: m => by
    have := len_split c m
    cases h : c o with
    | true => rw [List.filter_cons_of_pos h, List.filter_cons_of_neg (by simp [h])]; simp; omega
    | false => rw [List.filter_cons_of_neg (by simp [h]), List.filter_cons_of_pos (by simp [h])]; simp; omega
theorem own_rest {m : List Op} {t u : Nat} (h : t ≠ u) : own (m.filter fun o => !decide (o.x = u)) t = own m t := by
  unfold own
  rw [List.filter_filter]
  apply List.filter_congr
  intro o _
  by_cases e : o.x = t
  · have : ¬ o.x = u := by omega
    simp [e]; omega
  · simp [e]
theorem turn_congr {m m' : List Op} : ∀ {s : List Nat}, (∀ t ∈ s, own m t = own m' t) → turn m s = turn m' s
  | [], _ => rfl
  | t :: s, h => by
    show own m t ++ turn m s = own m' t ++ turn m' s
    rw [h t List.mem_cons_self, turn_congr fun u hu => h u (List.mem_cons_of_mem _ hu)]
theorem turn_len : ∀ (s : List Nat) (m : List Op), s.Nodup → (∀ o ∈ m, ∃ t ∈ s, o.x = (t : Int)) → (turn m s).length = m.length
  | [], m, _, h => by
    cases m with
    | nil => rfl
    | cons o m => obtain ⟨t, ht, _⟩ := h o List.mem_cons_self; simp at ht
  | u :: s, m, hn, h => by
    have hn := List.nodup_cons.1 hn
    have e : turn m (u :: s) = own m u ++ turn m s := rfl
    have e2 : turn m s = turn (m.filter fun o => !decide (o.x = u)) s := turn_congr fun t ht => (own_rest (fun (e : t = u) => hn.1 (e ▸ ht))).symm
    have ih := turn_len s (m.filter fun o => !decide (o.x = u)) hn.2 fun o ho => by
      obtain ⟨h1, h2⟩ := List.mem_filter.1 ho
      obtain ⟨t, ht, eo⟩ := h o h1
      rcases List.mem_cons.1 ht with rfl | ht
      · simp at h2; exact absurd eo h2
      · exact ⟨t, ht, eo⟩
    rw [e, List.length_append, e2, ih]
    have := len_split (fun o => decide (o.x = u)) m
    unfold own
    omega
/-- A place in it: in which transaction's part, and where in that. -/
theorem turn_at {m : List Op} : ∀ (s : List Nat), s.Nodup → ∀ (j : Nat) (o : Op), (turn m s)[j]? = some o → ∃ t n, t ∈ s ∧ o.x = (t : Int) ∧ (own m t)[n]? = some o ∧ own ((turn m s).take j) t = (own m t).take n
  | [], _, j, o, h => by simp [turn] at h
  | u :: s, hn, j, o, h => by
    have hn := List.nodup_cons.1 hn
    have e : turn m (u :: s) = own m u ++ turn m s := rfl
    rw [e] at h ⊢
    rcases Nat.lt_or_ge j (own m u).length with hj | hj
    · rw [List.getElem?_append_left hj] at h
      refine ⟨u, j, List.mem_cons_self, (own_mem.1 (List.mem_of_getElem? h)).2, h, ?_⟩
      rw [List.take_append_of_le_length (by omega)]
      have : ∀ q ∈ (own m u).take j, decide (q.x = (u : Int)) = true := fun q hq => by simpa using (own_mem.1 (List.mem_of_mem_take hq)).2
      unfold own at this ⊢
      exact List.filter_eq_self.2 this
    · rw [List.getElem?_append_right hj] at h
      obtain ⟨t, n, h1, h2, h3, h4⟩ := turn_at s hn.2 _ o h
      refine ⟨t, n, List.mem_cons_of_mem _ h1, h2, h3, ?_⟩
      have hu : ¬ u = t := fun e => hn.1 (e ▸ h1)
      rw [List.take_append, List.take_of_length_le hj, own_append, own_own, if_neg hu, h4]; rfl
theorem turn_check {m : List Op} (h : check m = 0) {s : List Nat} (hn : s.Nodup) (hs : ∀ o ∈ m, ∃ t ∈ s, o.x = (t : Int)) : check (turn m s) = 0 := by
  refine check_of (by rw [turn_len s m hn hs]; exact (check_zero h).1) fun j o ho => ?_
  obtain ⟨t, n, h1, h2, h3, h4⟩ := turn_at s hn j o ho
  obtain ⟨i, h5, h6⟩ := filter_at _ m n o h3
  refine ⟨good_at h h5, ?_⟩
  have e : o.x.toNat = t := by omega
  rw [e, ← ends_own, h4]
  have := live_at h h5
  rw [e, ← ends_own] at this
  unfold own at this ⊢
  rw [← h6]; exact this
theorem turn_same {m : List Op} (_h : check m = 0) {s : List Nat} (hn : s.Nodup) (hs : ∀ o ∈ m, ∃ t ∈ s, o.x = (t : Int)) : same m (turn m s) = true := by
  refine same_of (turn_len s m hn hs).symm fun j o ho => ?_
  obtain ⟨t, h1, h2⟩ := hs o (List.mem_of_getElem? ho)
  have e : o.x.toNat = t := by omega
  rw [e]
  have hr := own_rank ho h2
  rw [← own_turn s hn h1] at hr
  have hl : rank m j t < (plc (turn m s) t).length := by rw [plc_len]; exact (List.getElem?_eq_some_iff.1 hr).1
  obtain ⟨q, h3, h4⟩ := plc_at (List.getElem?_eq_getElem hl)
  refine ⟨_, List.getElem?_eq_getElem hl, ?_⟩
  rw [h3, ← h4, hr]
/-- Whose part is ahead, his operations are. -/
theorem turn_lt {m : List Op} {s : List Nat} (hn : s.Nodup) {a b t u : Nat} (hab : a < b) (ha : s[a]? = some t) (hb : s[b]? = some u) {n n' p q : Nat} (hp : (plc (turn m s) t)[n]? = some p) (hq : (plc (turn m s) u)[n']? = some q) : p < q := by
  have hbl := (List.getElem?_eq_some_iff.1 hb).1
  have e : turn m s = turn m (s.take b) ++ turn m (s.drop b) := by
    unfold turn
    rw [← List.flatMap_append, List.take_append_drop]
  have hn' : (s.take b ++ s.drop b).Nodup := by rw [List.take_append_drop]; exact hn
  have hd := (List.nodup_append.1 hn').2.2
  have ht : t ∈ s.take b := List.mem_of_getElem? (i := a) (by rw [List.getElem?_take, if_pos hab]; exact ha)
  have hu : u ∈ s.drop b := List.mem_of_getElem? (i := 0) (by rw [List.getElem?_drop, Nat.add_zero]; exact hb)
  have e1 : plcF (0 + (turn m (s.take b)).length) (turn m (s.drop b)) t = [] := plcF_none fun o ho hx => by
    obtain ⟨v, hv, _, e⟩ := turn_mem.1 ho
    exact hd t ht v hv (by omega)
  have e2 : plcF 0 (turn m (s.take b)) u = [] := plcF_none fun o ho hx => by
    obtain ⟨v, hv, _, e⟩ := turn_mem.1 ho
    exact hd v hv u hu (by omega)
  unfold plc at hp hq
  rw [e, plcF_append, e1, List.append_nil] at hp
  rw [e, plcF_append, e2, List.nil_append] at hq
  have h1 := plcF_mem _ _ _ _ (List.mem_of_getElem? hp)
  have h2 := plcF_mem _ _ _ _ (List.mem_of_getElem? hq)
  omega
/-- What commits clashes as it does in the whole run. -/
theorem comm_pair {l : List Op} {p q : Op} : Pair (comm l) p q ↔ Pair l p q ∧ com l p.x.toNat = true ∧ com l q.x.toNat = true := Pair_filter _ l p q
theorem edge_pair {l : List Op} {i j : Nat} : edge l i j = true ↔ ∃ p q, Pair (comm l) p q ∧ clash p q = true ∧ p.x = (i : Int) ∧ q.x = (j : Int) := by
  unfold edge
  rw [Bool.and_eq_true, Bool.and_eq_true, ahead_iff]
  constructor
  · rintro ⟨⟨⟨a, b, p, q, h1, h2, h3, h4, h5, h6⟩, h7⟩, h8⟩
    exact ⟨p, q, comm_pair.2 ⟨⟨a, b, h1, h2, h3⟩, by rw [h5]; exact h7, by rw [h6]; exact h8⟩, h4, h5, h6⟩
  · rintro ⟨p, q, h, h4, h5, h6⟩
    obtain ⟨⟨a, b, h1, h2, h3⟩, h7, h8⟩ := comm_pair.1 h
    rw [h5] at h7; rw [h6] at h8
    exact ⟨⟨⟨a, b, p, q, h1, h2, h3, h4, h5, h6⟩, h7⟩, h8⟩
theorem com_lt {l : List Op} (h : check l = 0) {o : Op} (ho : o ∈ comm l) : ∃ t : Nat, t < 12 ∧ o.x = (t : Int) ∧ com l t = true := by
  obtain ⟨h1, h2⟩ := comm_mem.1 ho
  have g := good_mem h h1
  have := g.x0; have := g.x1
  exact ⟨o.x.toNat, by omega, by omega, h2⟩

/-- In an order of the edges: like. -/
theorem serial_like {l : List Op} (h : check l = 0) {L : List Nat} (ho : Gr.order (edges l) 12 = some L) : like (comm l) (turn (comm l) (L.filter (com l))) = true ∧ check (turn (comm l) (L.filter (com l))) = 0 := by
  obtain ⟨F, hl⟩ := Gr.order_some ho
  have hc := comm_check h
  have hn : (L.filter (com l)).Nodup := F.nd.sublist List.filter_sublist
  have hall : ∀ o ∈ comm l, ∃ t ∈ L.filter (com l), o.x = (t : Int) := fun o ho => by
    obtain ⟨t, h1, h2, h3⟩ := com_lt h ho
    exact ⟨t, List.mem_filter.2 ⟨(Gr.all_in 12 L F.nd F.lt).2 hl t h1, h3⟩, h2⟩
  refine ⟨?_, turn_check hc hn hall⟩
  unfold like
  rw [turn_same hc hn hall, Bool.true_and]
  refine keeps_iff.2 fun i j p q hij hp hq hpq => ?_
  obtain ⟨t, ht, htx, htc⟩ := com_lt h (List.mem_of_getElem? hp)
  obtain ⟨u, hu, hux, huc⟩ := com_lt h (List.mem_of_getElem? hq)
  have he : edge l t u = true := edge_pair.2 ⟨p, q, ⟨i, j, hij, hp, hq⟩, hpq, htx, hux⟩
  have hE := edges_E.2 ⟨ht, hu, he⟩
  obtain ⟨b, hb⟩ := List.getElem?_of_mem ((Gr.all_in 12 L F.nd F.lt).2 hl u hu)
  obtain ⟨a, ha, hat⟩ := F.pre b u hb t ht hE
  obtain ⟨a', b', hab, h1, h2⟩ := (Pair_filter (com l) L t u).2 ⟨⟨a, b, ha, hat, hb⟩, htc, huc⟩
  have S := turn_same hc hn hall
  have Q := fun (k : Nat) (o : Op) (hk : (comm l)[k]? = some o) => by
    have := (Bool.and_eq_true _ _ ▸ S : _ ∧ _).2
    exact (hitB_iff hk).1 (sameTo_le this (List.getElem?_eq_some_iff.1 hk).1)
  obtain ⟨x, hx, _⟩ := Q i p hp
  obtain ⟨y, hy, _⟩ := Q j q hq
  rw [img_at hp hx, img_at hq hy]
  have ep : p.x.toNat = t := by omega
  have eq : q.x.toNat = u := by omega
  rw [ep] at hx; rw [eq] at hy
  exact Nat.le_of_lt (turn_lt hn hab h1 h2 hx hy)
/-- With a loop: like none. -/
theorem loop_like {l : List Op} (h : check l = 0) (ho : Gr.order (edges l) 12 = none) {s : List Nat} (hn : s.Nodup) (hs : ∀ t, t < 12 → t ∈ s) : like (comm l) (turn (comm l) s) = false ∧ check (turn (comm l) s) = 0 := by
  have hc := comm_check h
  have hall : ∀ o ∈ comm l, ∃ t ∈ s, o.x = (t : Int) := fun o ho => by
    obtain ⟨t, h1, h2, h3⟩ := com_lt h ho
    exact ⟨t, hs t h1, h2⟩
  refine ⟨Bool.eq_false_iff.2 fun hL => ?_, turn_check hc hn hall⟩
  unfold like at hL
  obtain ⟨S, K⟩ := (Bool.and_eq_true _ _ ▸ hL : _ ∧ _)
  have K := keeps_iff.1 K
  have Q := fun (k : Nat) (o : Op) (hk : (comm l)[k]? = some o) => by
    have := (Bool.and_eq_true _ _ ▸ S : _ ∧ _).2
    exact (hitB_iff hk).1 (sameTo_le this (List.getElem?_eq_some_iff.1 hk).1)
  have fwd : ∀ t u, Gr.E (edges l) t u = true → s.idxOf t < s.idxOf u := fun t u hE => by
    obtain ⟨ht, hu, he⟩ := edges_E.1 hE
    obtain ⟨p, q, ⟨i, j, hij, hp, hq⟩, hpq, hpx, hqx⟩ := edge_pair.1 he
    have hne := clash_ne hpq
    have := K i j p q hij hp hq hpq
    obtain ⟨x, hx, _⟩ := Q i p hp
    obtain ⟨y, hy, _⟩ := Q j q hq
    rw [img_at hp hx, img_at hq hy] at this
    have ep : p.x.toNat = t := by omega
    have eq : q.x.toNat = u := by omega
    rw [ep] at hx; rw [eq] at hy
    have i1 : s[s.idxOf t]? = some t := by
      have := List.idxOf_lt_length_of_mem (hs t ht)
      rw [List.getElem?_eq_getElem this, List.getElem_idxOf]
    have i2 : s[s.idxOf u]? = some u := by
      have := List.idxOf_lt_length_of_mem (hs u hu)
      rw [List.getElem?_eq_getElem this, List.getElem_idxOf]
    rcases Nat.lt_trichotomy (s.idxOf t) (s.idxOf u) with hlt | heq | hgt
    · exact hlt
    · rw [heq, i2] at i1
      injection i1 with i1
      omega
    · have := turn_lt hn hgt i2 i1 hy hx
      omega
  have way : ∀ b t u, Gr.W (edges l) b t u = true → s.idxOf t < s.idxOf u := fun b => by
    induction b with
    | zero => exact fwd
    | succ b ih =>
      intro t u hw
      simp only [Gr.W, Bool.or_eq_true, Bool.and_eq_true] at hw
      rcases hw with hw | ⟨h1, h2⟩
      · exact ih t u hw
      · exact Nat.lt_trans (ih t b h1) (ih b u h2)
  obtain ⟨k, _, hk⟩ := Gr.order_none ho
  exact Nat.lt_irrefl _ (way 12 k k hk)
end Rn
end Go.Proofs.Ytlalpahfoafhoab.PRun
