/-
  What is read in a run, in plain words (no program in it): the names of operations; from which write each Read is, and which write of each item is the last; when two runs show the same. And what follows: runs without Aborts that are like each other show the same. No conditions.
-/
import Derived.Test.YtlalpahfoafhoabRunSer
import Derived.Test.YtlalpahfoafhoabRunWri
namespace Go.Proofs.Ytlalpahfoafhoab.PSee
open PGraph PRun
namespace Se

/-- The name of the operation at a place: whose, and the how many-th of that transaction. -/
def nm (X : List Rn.Op) (p : Nat) : Gr.Ed := match X[p]? with
  | some o => ⟨o.x, (Rn.rank X p o.x.toNat : Nat)⟩
  | none => ⟨-1, 0⟩
def nmO (X : List Rn.Op) : Option Nat → Gr.Ed
  | some p => nm X p
  | none => ⟨-1, 0⟩
def isR (X : List Rn.Op) (p : Nat) : Bool := match X[p]? with
  | some o => decide (o.k = 1)
  | none => false
/-- The places of the Reads among the first k. -/
def rds (X : List Rn.Op) (k : Nat) : List Nat := (List.range k).filter (isR X)
def frm (X : List Rn.Op) (p : Nat) : Option Nat := match X[p]? with
  | some o => wrI X p o.i p
  | none => none
/-- What Reads tells of the first k. -/
def seen (X : List Rn.Op) (k : Nat) : List Gr.Ed := (rds X k).map fun p : Nat => ⟨(p : Int), wrN (frm X p)⟩
def lst (X : List Rn.Op) (i : Nat) : Option Nat := wrI X X.length (i : Int) X.length
def lstN (X : List Rn.Op) (i : Nat) : Int := wrN (lst X i)
/-- From which write, by their names, each Read of the first k is. -/
def fmap (X : List Rn.Op) (k : Nat) : List (Gr.Ed × Gr.Ed) := (rds X k).map fun p => (nm X p, nmO X (frm X p))
def lstM (X : List Rn.Op) (i : Nat) : Gr.Ed := nmO X (lst X i)
def sameL (X Y : List Rn.Op) : Bool := (List.range 20).all fun i => decide (lstM X i = lstM Y i)
def inR (Y : List Rn.Op) (e : Gr.Ed × Gr.Ed) : Bool := (fmap Y Y.length).any fun d => decide (e = d)
def alike (X Y : List Rn.Op) : Bool := decide ((rds X X.length).length = (rds Y Y.length).length) && sameL X Y && (fmap X X.length).all (inR Y)

theorem rds_mem {X : List Rn.Op} {k p : Nat} : p ∈ rds X k ↔ p < k ∧ isR X p = true := by simp [rds]
theorem isR_iff {X : List Rn.Op} {p : Nat} : isR X p = true ↔ ∃ o, X[p]? = some o ∧ o.k = 1 := by
  unfold isR
  cases X[p]? with
  | none => simp
  | some o => simp
theorem rds_next (X : List Rn.Op) (k : Nat) : rds X (k + 1) = rds X k ++ if isR X k = true then [k] else [] := by
  unfold rds
  rw [List.range_succ, List.filter_append]
  congr 1
  cases h : isR X k <;> simp [h]
theorem rds_len (X : List Rn.Op) (k : Nat) : (rds X k).length ≤ k := by
  have := List.length_filter_le (isR X) (List.range k)
  rw [List.length_range] at this
  exact this
theorem seen_next (X : List Rn.Op) (k : Nat) : seen X (k + 1) = seen X k ++ if isR X k = true then [⟨(k : Int), wrN (frm X k)⟩] else [] := by
  unfold seen
  rw [rds_next, List.map_append]
  congr 1
  split <;> rfl
theorem seen_len (X : List Rn.Op) (k : Nat) : (seen X k).length = (rds X k).length := by unfold seen; rw [List.length_map]
theorem fmap_next (X : List Rn.Op) (k : Nat) : fmap X (k + 1) = fmap X k ++ if isR X k = true then [(nm X k, nmO X (frm X k))] else [] := by
  unfold fmap
  rw [rds_next, List.map_append]
  congr 1
  split <;> rfl
theorem fmap_len (X : List Rn.Op) (k : Nat) : (fmap X k).length = (rds X k).length := by unfold fmap; rw [List.length_map]

/-! ### What the last write is -/
theorem wrI_lt {X : List Rn.Op} {j : Nat} {it : Int} : ∀ {k q : Nat}, wrI X j it k = some q → q < k
  | 0, q, h => by cases h
  | k + 1, q, h => by
    simp only [wrI] at h
    split at h
    · split at h
      · injection h with h; omega
      · have := wrI_lt h; omega
    · have := wrI_lt h; omega
theorem wrI_at {X : List Rn.Op} {j : Nat} {it : Int} : ∀ {k q : Nat}, wrI X j it k = some q → ∃ o, X[q]? = some o ∧ isW X j it o = true
  | 0, q, h => by cases h
  | k + 1, q, h => by
    simp only [wrI] at h
    split at h
    · rename_i o ho
      split at h
      · rename_i hw
        injection h with h
        subst h
        exact ⟨o, ho, hw⟩
      · exact wrI_at h
    · exact wrI_at h
/-- Only what stands ahead counts. -/
theorem wrI_take (X : List Rn.Op) (j : Nat) (it : Int) : ∀ k, k ≤ j → wrI (X.take j) j it k = wrI X j it k
  | 0, _ => rfl
  | k + 1, hk => by
    simp only [wrI]
    rw [List.getElem?_take, if_pos (by omega), wrI_take X j it k (by omega)]
    have e : ∀ o, isW (X.take j) j it o = isW X j it o := fun o => by unfold isW; rw [List.take_take, Nat.min_self]
    cases X[k]? with
    | none => rfl
    | some o => simp only [e]
theorem wrN_eq {X : List Rn.Op} {j k : Nat} {it : Int} {q : Nat} (h : wrI X j it k = some q) : wrN (wrI X j it k) = (q : Int) := by rw [h]; rfl
theorem wrN_lo (v : Option Nat) : -1 ≤ wrN v := by cases v <;> simp [wrN] <;> omega
theorem wrN_none {v : Option Nat} : wrN v < 0 ↔ v = none := by
  cases v with
  | none => simp [wrN]
  | some q => simp [wrN]
theorem wrN_hi {X : List Rn.Op} {j k : Nat} {it : Int} (hk : 0 ≤ (k : Int)) : wrN (wrI X j it k) < (k : Int) := by
  cases h : wrI X j it k with
  | none => show (-1 : Int) < _; omega
  | some q => have := wrI_lt h; show (q : Int) < _; omega

/-! ### Names -/
theorem nm_some {X : List Rn.Op} {p : Nat} {o : Rn.Op} (ho : X[p]? = some o) : nm X p = ⟨o.x, (Rn.rank X p o.x.toNat : Nat)⟩ := by unfold nm; rw [ho]
theorem plc_nodup (X : List Rn.Op) (t : Nat) : (Rn.plc X t).Pairwise (· < ·) := by
  unfold Rn.plc
  generalize 0 = s
  induction X generalizing s with
  | nil => simp [Rn.plcF]
  | cons o X ih =>
    simp only [Rn.plcF]
    split
    · refine List.pairwise_cons.2 ⟨fun p hp => ?_, ih (s + 1)⟩
      have := Rn.plcF_mem X (s + 1) t p hp
      omega
    · exact ih (s + 1)
/-- Places of a transaction rise with their ranks. -/
theorem plc_rise {X : List Rn.Op} {t a b p q : Nat} (hp : (Rn.plc X t)[a]? = some p) (hq : (Rn.plc X t)[b]? = some q) (hab : a < b) : p < q := by
  obtain ⟨h1, h2⟩ := List.getElem?_eq_some_iff.1 hp
  obtain ⟨h3, h4⟩ := List.getElem?_eq_some_iff.1 hq
  have := List.pairwise_iff_getElem.1 (plc_nodup X t) a b h1 h3 hab
  rw [h2, h4] at this
  exact this
theorem rank_at {X : List Rn.Op} {t n p : Nat} {o : Rn.Op} (h : (Rn.plc X t)[n]? = some p) (ho : X[p]? = some o) (hx : o.x = t) : Rn.rank X p t = n := by
  have h2 := Rn.plc_rank ho hx
  rcases Nat.lt_trichotomy (Rn.rank X p t) n with hlt | heq | hgt
  · have := plc_rise h2 h hlt; omega
  · exact heq
  · have := plc_rise h h2 hgt; omega
theorem nm_inj {X : List Rn.Op} (hX : ∀ o ∈ X, 0 ≤ o.x) {p q : Nat} (hp : p < X.length) (hq : q < X.length) (h : nm X p = nm X q) : p = q := by
  obtain ⟨o, ho⟩ : ∃ o, X[p]? = some o := ⟨_, List.getElem?_eq_getElem hp⟩
  obtain ⟨u, hu⟩ : ∃ u, X[q]? = some u := ⟨_, List.getElem?_eq_getElem hq⟩
  rw [nm_some ho, nm_some hu] at h
  injection h with h1 h2
  have o0 := hX o (List.mem_of_getElem? ho)
  have u0 := hX u (List.mem_of_getElem? hu)
  have e : o.x.toNat = u.x.toNat := by rw [h1]
  have r1 := Rn.plc_rank ho (t := o.x.toNat) (by omega)
  have r2 := Rn.plc_rank hu (t := u.x.toNat) (by omega)
  have e2 : Rn.rank X p o.x.toNat = Rn.rank X q u.x.toNat := by omega
  rw [e2, e, r2] at r1
  injection r1 with r1
  exact r1.symm
theorem nm_ne {X : List Rn.Op} (hX : ∀ o ∈ X, 0 ≤ o.x) {p : Nat} (hp : p < X.length) : nm X p ≠ ⟨-1, 0⟩ := fun h => by
  obtain ⟨o, ho⟩ : ∃ o, X[p]? = some o := ⟨_, List.getElem?_eq_getElem hp⟩
  rw [nm_some ho] at h
  injection h with h1 h2
  have := hX o (List.mem_of_getElem? ho)
  omega
theorem fmap_keys {X : List Rn.Op} (hX : ∀ o ∈ X, 0 ≤ o.x) {k : Nat} (hk : k ≤ X.length) : ((fmap X k).map Prod.fst).Nodup := by
  unfold fmap
  rw [List.map_map]
  show ((rds X k).map fun p => nm X p).Nodup
  unfold List.Nodup
  rw [List.pairwise_map]
  have h1 : (rds X k).Pairwise (· ≠ ·) := (List.nodup_range (n := k)).sublist List.filter_sublist
  refine List.Pairwise.imp_of_mem (fun {a b} ha hb hne => ?_) h1
  intro e
  exact hne (nm_inj hX (by have := (rds_mem.1 ha).1; omega) (by have := (rds_mem.1 hb).1; omega) e)

/-! ### Like runs without Aborts show the same -/
def isWr (X : List Rn.Op) (it : Int) (q : Nat) : Prop := ∃ o, X[q]? = some o ∧ o.k = 2 ∧ o.i = it
/-- It is the last write of the item ahead of a place. -/
def Lst (X : List Rn.Op) (it : Int) (k : Nat) : Option Nat → Prop
  | some q => q < k ∧ isWr X it q ∧ ∀ s, q < s → s < k → ¬ isWr X it s
  | none => ∀ s, s < k → ¬ isWr X it s
theorem Lst.uniq {X : List Rn.Op} {it : Int} {k : Nat} {u v : Option Nat} (hu : Lst X it k u) (hv : Lst X it k v) : u = v := by
  cases u with
  | none =>
    cases v with
    | none => rfl
    | some q => exact absurd hv.2.1 (hu q hv.1)
  | some p =>
    cases v with
    | none => exact absurd hu.2.1 (hv p hu.1)
    | some q =>
      rcases Nat.lt_trichotomy p q with h | h | h
      · exact absurd hv.2.1 (hu.2.2 q h hv.1)
      · rw [h]
      · exact absurd hu.2.1 (hv.2.2 p h hu.1)
def Still (X : List Rn.Op) : Prop := ∀ o ∈ X, o.k ≠ 4
theorem still_isW {X : List Rn.Op} (hS : Still X) {j : Nat} {it : Int} {o : Rn.Op} : isW X j it o = true ↔ o.k = 2 ∧ o.i = it := by
  rw [isW_iff]
  constructor
  · rintro ⟨h1, h2, _⟩; exact ⟨h1, h2⟩
  · rintro ⟨h1, h2⟩
    refine ⟨h1, h2, fun h => ?_⟩
    obtain ⟨u, hu, hk, _⟩ := Rn.ends_mem h (by decide)
    exact hS u (List.mem_of_mem_take hu) hk
theorem wrI_Lst {X : List Rn.Op} (hS : Still X) (j : Nat) (it : Int) : ∀ k, Lst X it k (wrI X j it k)
  | 0 => fun s hs => by omega
  | k + 1 => by
    have ih := wrI_Lst hS j it k
    cases ho : X[k]? with
    | none =>
      have e : wrI X j it (k + 1) = wrI X j it k := by simp only [wrI, ho]
      have hn : ¬ isWr X it k := by rintro ⟨o, h, _⟩; rw [ho] at h; cases h
      rw [e]
      cases hr : wrI X j it k with
      | none => rw [hr] at ih; exact fun s hs => by by_cases e : s = k; (· rw [e]; exact hn); (· exact ih s (by omega))
      | some q => rw [hr] at ih; exact ⟨by have := ih.1; omega, ih.2.1, fun s h1 h2 => by by_cases e : s = k; (· rw [e]; exact hn); (· exact ih.2.2 s h1 (by omega))⟩
    | some o =>
      by_cases hw : o.k = 2 ∧ o.i = it
      · rw [wrI_hit ho ((still_isW hS).2 hw)]
        exact ⟨Nat.lt_succ_self _, ⟨o, ho, hw⟩, fun s h1 h2 => by omega⟩
      · have e : wrI X j it (k + 1) = wrI X j it k := wrI_miss ho (Bool.eq_false_iff.2 fun h => hw ((still_isW hS).1 h))
        have hn : ¬ isWr X it k := by rintro ⟨u, h, h2⟩; rw [ho] at h; injection h with h; subst h; exact hw h2
        rw [e]
        cases hr : wrI X j it k with
        | none => rw [hr] at ih; exact fun s hs => by by_cases e : s = k; (· rw [e]; exact hn); (· exact ih s (by omega))
        | some q => rw [hr] at ih; exact ⟨by have := ih.1; omega, ih.2.1, fun s h1 h2 => by by_cases e : s = k; (· rw [e]; exact hn); (· exact ih.2.2 s h1 (by omega))⟩

/-- What stands where: a one to one way from the places of one run to those of another. -/
structure Way (X Y : List Rn.Op) (g : Nat → Nat) : Prop where
  len : X.length = Y.length
  at_ : ∀ p o, X[p]? = some o → Y[g p]? = some o ∧ nm Y (g p) = nm X p
  onto : ∀ q, q < Y.length → ∃ p, p < X.length ∧ g p = q
  /-- those that read or write one item, one of them a write, stand in one order -/
  keep : ∀ a b p q, a < b → X[a]? = some p → X[b]? = some q → p.i = q.i → Rn.item p = true → Rn.item q = true → (p.k = 2 ∨ q.k = 2) → g a < g b
theorem like_way {X Y : List Rn.Op} (hx : Rn.check X = 0) (hL : Rn.like X Y = true) : Way X Y (Rn.img X Y) := by
  unfold Rn.like at hL
  obtain ⟨S, K⟩ := (Bool.and_eq_true _ _ ▸ hL : _ ∧ _)
  have K := Rn.keeps_iff.1 K
  unfold Rn.same at S
  obtain ⟨hl, S⟩ := (Bool.and_eq_true _ _ ▸ S : _ ∧ _)
  have hl : X.length = Y.length := of_decide_eq_true hl
  have hX : ∀ o ∈ X, 0 ≤ o.x := fun o ho => (Rn.good_mem hx ho).x0
  have Q := fun (k : Nat) (o : Rn.Op) (hk : X[k]? = some o) => (Rn.hitB_iff hk).1 (Rn.sameTo_le S (List.getElem?_eq_some_iff.1 hk).1)
  have at_ : ∀ p o, X[p]? = some o → Y[Rn.img X Y p]? = some o ∧ nm Y (Rn.img X Y p) = nm X p := fun p o ho => by
    obtain ⟨q, h1, h2⟩ := Q p o ho
    have o0 := hX o (List.mem_of_getElem? ho)
    rw [Rn.img_at ho h1]
    refine ⟨h2, ?_⟩
    rw [nm_some h2, nm_some ho, rank_at h1 h2 (by omega)]
  have inj : ∀ p q, p < X.length → q < X.length → Rn.img X Y p = Rn.img X Y q → p = q := fun p q hp hq e => by
    have h1 := (at_ p _ (List.getElem?_eq_getElem hp)).2
    have h2 := (at_ q _ (List.getElem?_eq_getElem hq)).2
    rw [e] at h1
    exact nm_inj hX hp hq (h1.symm.trans h2)
  refine ⟨hl, at_, fun q hq => ?_, fun a b p q hab hp hq hi hp1 hq1 hw => ?_⟩
  · have hnd : ((List.range X.length).map (Rn.img X Y)).Nodup := by
      unfold List.Nodup
      rw [List.pairwise_map]
      refine List.Pairwise.imp_of_mem (fun {a b} ha hb hne => ?_) (List.nodup_range (n := X.length))
      exact fun e => hne (inj a b (List.mem_range.1 ha) (List.mem_range.1 hb) e)
    have hlt : ∀ k ∈ (List.range X.length).map (Rn.img X Y), k < X.length := fun k hk => by
      obtain ⟨p, hp, rfl⟩ := List.mem_map.1 hk
      have := (at_ p _ (List.getElem?_eq_getElem (List.mem_range.1 hp))).1
      rw [hl]
      exact (List.getElem?_eq_some_iff.1 this).1
    have := (Gr.all_in X.length _ hnd hlt).2 (by simp) q (by omega)
    obtain ⟨p, hp, e⟩ := List.mem_map.1 this
    exact ⟨p, List.mem_range.1 hp, e⟩
  · by_cases hxx : p.x = q.x
    · obtain ⟨u, h1, h2⟩ := Q a p hp
      obtain ⟨v, h3, h4⟩ := Q b q hq
      rw [Rn.img_at hp h1, Rn.img_at hq h3]
      rw [← hxx] at h3
      refine plc_rise h1 h3 ?_
      have p0 := hX p (List.mem_of_getElem? hp)
      have r1 := Rn.plc_rank hp (t := p.x.toNat) (by omega)
      have r2 := Rn.plc_rank hq (t := p.x.toNat) (by omega)
      rcases Nat.lt_trichotomy (Rn.rank X a p.x.toNat) (Rn.rank X b p.x.toNat) with h | h | h
      · exact h
      · rw [h, r2] at r1; injection r1 with r1; omega
      · have := plc_rise r2 r1 h; omega
    · have hc : Rn.clash p q = true := by
        unfold Rn.clash
        rw [hp1, hq1, decide_eq_true hxx, decide_eq_true hi]
        rcases hw with h | h <;> simp [h]
      have h1 := K a b p q hab hp hq hc
      have hab' : Rn.img X Y a ≠ Rn.img X Y b := fun e => by
        have := inj a b (List.getElem?_eq_some_iff.1 hp).1 (List.getElem?_eq_some_iff.1 hq).1 e
        omega
      omega
theorem Way.wr {X Y : List Rn.Op} {g : Nat → Nat} (W : Way X Y g) {it : Int} {p : Nat} : isWr X it p → isWr Y it (g p) := fun ⟨o, h1, h2⟩ => ⟨o, (W.at_ p o h1).1, h2⟩
theorem Way.back {X Y : List Rn.Op} {g : Nat → Nat} (W : Way X Y g) {it : Int} {q : Nat} (h : isWr Y it q) : ∃ p, p < X.length ∧ g p = q ∧ isWr X it p := by
  obtain ⟨o, h1, h2⟩ := h
  obtain ⟨p, hp, rfl⟩ := W.onto q (List.getElem?_eq_some_iff.1 h1).1
  have := (W.at_ p _ (List.getElem?_eq_getElem hp)).1
  rw [h1] at this
  injection this with this
  exact ⟨p, hp, rfl, _, List.getElem?_eq_getElem hp, by rw [← this]; exact h2⟩
theorem isWr_item {X : List Rn.Op} {it : Int} {p : Nat} {o : Rn.Op} (h : isWr X it p) (ho : X[p]? = some o) : o.k = 2 ∧ o.i = it ∧ Rn.item o = true := by
  obtain ⟨u, h1, h2, h3⟩ := h
  rw [ho] at h1
  injection h1 with h1
  subst h1
  exact ⟨h2, h3, by simp [Rn.item, h2]⟩
/-- The last write ahead of what reads or writes the item stands where it stands. -/
theorem Way.last {X Y : List Rn.Op} {g : Nat → Nat} (W : Way X Y g) {it : Int} {k : Nat} {o : Rn.Op} (ho : X[k]? = some o) (hi : o.i = it) (hk : Rn.item o = true) {v : Option Nat} (h : Lst X it k v) : Lst Y it (g k) (v.map g) := by
  have wr_lt : ∀ s u, X[s]? = some u → isWr X it s → s < k → g s < g k := fun s u hu hs hlt => by
    obtain ⟨w1, w2, w3⟩ := isWr_item hs hu
    exact W.keep s k u o hlt hu ho (by rw [w2, hi]) w3 hk (.inl w1)
  have lt_wr : ∀ s u, X[s]? = some u → isWr X it s → k < s → g k < g s := fun s u hu hs hlt => by
    obtain ⟨w1, w2, w3⟩ := isWr_item hs hu
    exact W.keep k s o u hlt ho hu (by rw [w2, hi]) hk w3 (.inr w1)
  cases v with
  | none =>
    intro t ht hw
    obtain ⟨s, hs, rfl, hsw⟩ := W.back hw
    rcases Nat.lt_trichotomy s k with h1 | h1 | h1
    · exact h s h1 hsw
    · subst h1; omega
    · have := lt_wr s _ (List.getElem?_eq_getElem hs) hsw h1; omega
  | some q =>
    obtain ⟨h1, h2, h3⟩ := h
    have hq : q < X.length := by obtain ⟨u, hu, _⟩ := h2; exact (List.getElem?_eq_some_iff.1 hu).1
    refine ⟨wr_lt q _ (List.getElem?_eq_getElem hq) h2 h1, W.wr h2, fun t ht1 ht2 hw => ?_⟩
    obtain ⟨s, hs, rfl, hsw⟩ := W.back hw
    obtain ⟨a1, a2, a3⟩ := isWr_item hsw (List.getElem?_eq_getElem hs)
    obtain ⟨b1, b2, b3⟩ := isWr_item h2 (List.getElem?_eq_getElem hq)
    have hsk : s < k := by
      rcases Nat.lt_trichotomy s k with h4 | h4 | h4
      · exact h4
      · subst h4; omega
      · have := lt_wr s _ (List.getElem?_eq_getElem hs) hsw h4; omega
    have hqs : q < s := by
      rcases Nat.lt_trichotomy q s with h4 | h4 | h4
      · exact h4
      · subst h4; omega
      · have := W.keep s q _ _ h4 (List.getElem?_eq_getElem hs) (List.getElem?_eq_getElem hq) (by rw [a2, b2]) a3 b3 (.inl a1); omega
    exact h3 s hqs hsk hsw
/-- So does the last one of all. -/
theorem Way.final {X Y : List Rn.Op} {g : Nat → Nat} (W : Way X Y g) {it : Int} {v : Option Nat} (h : Lst X it X.length v) : Lst Y it Y.length (v.map g) := by
  cases v with
  | none =>
    intro t ht hw
    obtain ⟨s, hs, rfl, hsw⟩ := W.back hw
    exact h s hs hsw
  | some q =>
    obtain ⟨h1, h2, h3⟩ := h
    refine ⟨by obtain ⟨u, hu, _⟩ := W.wr h2; exact (List.getElem?_eq_some_iff.1 hu).1, W.wr h2, fun t ht1 ht2 hw => ?_⟩
    obtain ⟨s, hs, rfl, hsw⟩ := W.back hw
    obtain ⟨a1, a2, a3⟩ := isWr_item hsw (List.getElem?_eq_getElem hs)
    obtain ⟨b1, b2, b3⟩ := isWr_item h2 (List.getElem?_eq_getElem h1)
    rcases Nat.lt_trichotomy s q with h4 | h4 | h4
    · have := W.keep s q _ _ h4 (List.getElem?_eq_getElem hs) (List.getElem?_eq_getElem h1) (by rw [a2, b2]) a3 b3 (.inl a1); omega
    · subst h4; omega
    · exact h3 s h4 hs hsw
theorem Way.name {X Y : List Rn.Op} {g : Nat → Nat} (W : Way X Y g) {it : Int} {k : Nat} {v : Option Nat} (h : Lst X it k v) : nmO Y (v.map g) = nmO X v := by
  cases v with
  | none => rfl
  | some q =>
    obtain ⟨o, ho, _⟩ := h.2.1
    exact (W.at_ q o ho).2
theorem still_way {X Y : List Rn.Op} {g : Nat → Nat} (W : Way X Y g) (hS : Still X) : Still Y := fun o ho => by
  obtain ⟨q, hq⟩ := List.getElem?_of_mem ho
  obtain ⟨p, hp, rfl⟩ := W.onto q (List.getElem?_eq_some_iff.1 hq).1
  have := (W.at_ p _ (List.getElem?_eq_getElem hp)).1
  rw [hq] at this
  injection this with this
  rw [this]
  exact hS _ (List.getElem_mem hp)
theorem fmap_way {X Y : List Rn.Op} {g : Nat → Nat} (W : Way X Y g) (hS : Still X) {e : Gr.Ed × Gr.Ed} (he : e ∈ fmap X X.length) : e ∈ fmap Y Y.length := by
  obtain ⟨p, hp, rfl⟩ := List.mem_map.1 he
  obtain ⟨hp1, hp2⟩ := rds_mem.1 hp
  obtain ⟨o, ho, hk⟩ := isR_iff.1 hp2
  obtain ⟨y1, y2⟩ := W.at_ p o ho
  refine List.mem_map.2 ⟨g p, rds_mem.2 ⟨(List.getElem?_eq_some_iff.1 y1).1, isR_iff.2 ⟨o, y1, hk⟩⟩, ?_⟩
  have f1 : frm X p = wrI X p o.i p := by unfold frm; rw [ho]
  have f2 : frm Y (g p) = wrI Y (g p) o.i (g p) := by unfold frm; rw [y1]
  have l1 := wrI_Lst hS p o.i p
  have l2 := W.last ho rfl (by simp [Rn.item, hk]) l1
  have e := (wrI_Lst (still_way W hS) (g p) o.i (g p)).uniq l2
  rw [f1, f2, y2, e, W.name l1]
/-- How many Reads there are. -/
theorem rds_count (X : List Rn.Op) (k : Nat) (hk : k ≤ X.length) : (rds X k).length = ((X.take k).filter fun o => decide (o.k = 1)).length := by
  induction k with
  | zero => simp [rds]
  | succ k ih =>
    obtain ⟨o, ho⟩ : ∃ o, X[k]? = some o := ⟨_, List.getElem?_eq_getElem (by omega)⟩
    rw [rds_next, List.length_append, ih (by omega), Rn.take_snoc ho, List.filter_append, List.length_append]
    have : isR X k = decide (o.k = 1) := by unfold isR; rw [ho]
    rw [this]
    by_cases h : o.k = 1 <;> simp [h]
theorem way_alike {X Y : List Rn.Op} {g : Nat → Nat} (hX : ∀ o ∈ X, 0 ≤ o.x) (W : Way X Y g) (hS : Still X) : alike X Y = true := by
  unfold alike
  rw [Bool.and_eq_true, Bool.and_eq_true, decide_eq_true_eq, List.all_eq_true]
  refine ⟨⟨?_, ?_⟩, fun e he => ?_⟩
  · have h1 : ((rds X X.length).map g).Nodup := by
      unfold List.Nodup
      rw [List.pairwise_map]
      refine List.Pairwise.imp_of_mem (fun {a b} ha hb hne => ?_) (show (rds X X.length).Pairwise (· ≠ ·) from (List.nodup_range (n := X.length)).sublist List.filter_sublist)
      intro e
      obtain ⟨ha1, _⟩ := rds_mem.1 ha
      obtain ⟨hb1, _⟩ := rds_mem.1 hb
      have h1 := (W.at_ a _ (List.getElem?_eq_getElem ha1)).2
      have h2 := (W.at_ b _ (List.getElem?_eq_getElem hb1)).2
      rw [e] at h1
      exact hne (nm_inj hX ha1 hb1 (h1.symm.trans h2))
    have h2 : ∀ q, q ∈ (rds X X.length).map g ↔ q ∈ rds Y Y.length := fun q => by
      rw [List.mem_map, rds_mem]
      constructor
      · rintro ⟨p, hp, rfl⟩
        obtain ⟨hp1, hp2⟩ := rds_mem.1 hp
        obtain ⟨o, ho, hk⟩ := isR_iff.1 hp2
        obtain ⟨y1, _⟩ := W.at_ p o ho
        exact ⟨(List.getElem?_eq_some_iff.1 y1).1, isR_iff.2 ⟨o, y1, hk⟩⟩
      · rintro ⟨hq, hr⟩
        obtain ⟨o, ho, hk⟩ := isR_iff.1 hr
        obtain ⟨p, hp, rfl⟩ := W.onto q hq
        have := (W.at_ p _ (List.getElem?_eq_getElem hp)).1
        rw [ho] at this
        injection this with this
        exact ⟨p, rds_mem.2 ⟨hp, isR_iff.2 ⟨_, List.getElem?_eq_getElem hp, by rw [← this]; exact hk⟩⟩, rfl⟩
    have h3 : (rds Y Y.length).Nodup := (List.nodup_range (n := Y.length)).sublist List.filter_sublist
    have := ((List.perm_ext_iff_of_nodup h1 h3).2 h2).length_eq
    rwa [List.length_map] at this
  · unfold sameL
    rw [List.all_eq_true]
    intro i _
    rw [decide_eq_true_eq]
    have l1 := wrI_Lst hS X.length (i : Int) X.length
    have e := (wrI_Lst (still_way W hS) Y.length (i : Int) Y.length).uniq (W.final l1)
    unfold lstM lst
    rw [e, W.name l1]
  · exact List.any_eq_true.2 ⟨e, fmap_way W hS he, by simp⟩
theorem like_alike {X Y : List Rn.Op} (hx : Rn.check X = 0) (hL : Rn.like X Y = true) (hS : Still X) : alike X Y = true :=
  way_alike (fun _ ho => (Rn.good_mem hx ho).x0) (like_way hx hL) hS
/-- All commit: none aborts. -/
theorem com_still {X : List Rn.Op} (hx : Rn.check X = 0) (hc : ∀ o ∈ X, Rn.com X o.x.toNat = true) : Still X := fun o ho hk => by
  obtain ⟨p, hp⟩ := List.getElem?_of_mem ho
  have g := Rn.good_at hx hp
  have h1 : Rn.ends (X.take (p + 1)) o.x.toNat = 4 := by
    rw [Rn.take_snoc hp, Rn.ends_snoc]
    unfold Rn.fin
    rw [if_pos ⟨.inr hk, by have := g.x0; omega⟩, hk]
  have h2 := Rn.ends_more hx (j := X.length) (Nat.succ_le_of_lt (List.getElem?_eq_some_iff.1 hp).1) (c := 4) h1 (by decide)
  rw [List.take_length] at h2
  have := hc o ho
  unfold Rn.com at this
  rw [h2] at this
  simp at this
/-- The last writes have one name: they are there, and of one transaction. -/
theorem alike_last {X Y : List Rn.Op} (hX : ∀ o ∈ X, 0 ≤ o.x) (hY : ∀ o ∈ Y, 0 ≤ o.x) (h : alike X Y = true) {i : Nat} (hi : i < 20) :
    (lstN X i < 0 ↔ lstN Y i < 0) ∧ ∀ p q o u, lst X i = some p → lst Y i = some q → X[p]? = some o → Y[q]? = some u → o.x = u.x := by
  unfold alike sameL at h
  rw [Bool.and_eq_true, Bool.and_eq_true, List.all_eq_true, List.all_eq_true] at h
  have e := of_decide_eq_true (h.1.2 i (List.mem_range.2 hi))
  unfold lstM at e
  unfold lstN
  rw [wrN_none, wrN_none]
  cases h1 : lst X i with
  | none =>
    cases h2 : lst Y i with
    | none => exact ⟨by simp, fun p q _ _ hp => by cases hp⟩
    | some q =>
      rw [h1, h2] at e
      obtain ⟨u, hu, _⟩ := wrI_at h2
      exact absurd e.symm (nm_ne hY (List.getElem?_eq_some_iff.1 hu).1)
  | some p =>
    obtain ⟨o, ho, _⟩ := wrI_at h1
    cases h2 : lst Y i with
    | none =>
      rw [h1, h2] at e
      exact absurd e (nm_ne hX (List.getElem?_eq_some_iff.1 ho).1)
    | some q =>
      obtain ⟨u, hu, _⟩ := wrI_at h2
      rw [h1, h2] at e
      have e : nm X p = nm Y q := e
      rw [nm_some ho, nm_some hu] at e
      injection e with e1 _
      refine ⟨by simp, fun p' q' o' u' hp hq ho' hu' => ?_⟩
      injection hp with hp; injection hq with hq
      subst hp; subst hq
      rw [ho] at ho'; rw [hu] at hu'
      injection ho' with ho'; injection hu' with hu'
      rw [← ho', ← hu']
      exact e1
end Se
end Go.Proofs.Ytlalpahfoafhoab.PSee
