/-
  Who may do what at one time, in plain words (no program in it): five modes, which fit, and which is the least above two; tables of locks: what is right of one; asking, dropping, waking, waiting. And what follows: a right table stays right whatever is asked for and dropped; who dropped all has nothing; who waits has someone in the way. No conditions.
-/
import Derived.Test.YtjoaedkgjnchoanGraphNum
namespace Go.Proofs.Ytjoaedkgjnchoan.PLock
open PGraph
namespace Lk

/-- A lock: whose, of which mode. -/
structure Lo where
  x : Int
  m : Int
deriving DecidableEq, Inhabited
/-- An item: its number, what is held, what is waited for. -/
structure It where
  i : Int
  h : List Lo
  q : List Lo
deriving DecidableEq, Inhabited

/-! ### Modes -/
def mode (m : Int) : Bool := decide (1 ≤ m) && decide (m ≤ 5)
def tx (t : Int) : Bool := decide (0 ≤ t) && decide (t < 12)
def item (i : Int) : Bool := decide (0 ≤ i) && decide (i < 20)
theorem mode_iff {m : Int} : mode m = true ↔ 1 ≤ m ∧ m ≤ 5 := by simp [mode]
theorem tx_iff {t : Int} : tx t = true ↔ 0 ≤ t ∧ t < 12 := by simp [tx]
theorem item_iff {t : Int} : item t = true ↔ 0 ≤ t ∧ t < 20 := by simp [item]
def fit (a b : Int) : Bool :=
  if min a b = 1 then decide (max a b ≠ 5) else if min a b = 2 ∨ min a b = 3 then decide (max a b = min a b) else false
def join (a b : Int) : Int := if min a b = 2 ∧ max a b = 3 then 4 else max a b
theorem fit_comm (a b : Int) : fit a b = fit b a := by unfold fit; rw [Int.min_comm, Int.max_comm]
theorem join_comm (a b : Int) : join a b = join b a := by unfold join; rw [Int.min_comm, Int.max_comm]
theorem modes {m : Int} (h : mode m = true) : m = 1 ∨ m = 2 ∨ m = 3 ∨ m = 4 ∨ m = 5 := by have := mode_iff.1 h; omega
theorem join_mode {a b : Int} (ha : mode a = true) (hb : mode b = true) : mode (join a b) = true := by
  rcases modes ha with rfl | rfl | rfl | rfl | rfl <;> rcases modes hb with rfl | rfl | rfl | rfl | rfl <;> rfl
theorem join_self {a : Int} (ha : mode a = true) : join a a = a := by
  rcases modes ha with rfl | rfl | rfl | rfl | rfl <;> rfl
theorem join_fit {a b c : Int} (ha : mode a = true) (hb : mode b = true) (hc : mode c = true) : fit (join a b) c = (fit a c && fit b c) := by
  rcases modes ha with rfl | rfl | rfl | rfl | rfl <;> rcases modes hb with rfl | rfl | rfl | rfl | rfl <;> rcases modes hc with rfl | rfl | rfl | rfl | rfl <;> rfl

/-! ### Locks of an item -/
/-- Has the transaction a lock there, at which place, of which mode? -/
def has (L : List Lo) (t : Int) : Bool := L.any fun l => decide (l.x = t)
def pl (L : List Lo) (t : Int) : Nat := L.findIdx fun l => decide (l.x = t)
def md (L : List Lo) (t : Int) : Int := match L.find? fun l => decide (l.x = t) with | some l => l.m | none => 0
def plI (L : List Lo) (t : Int) : Int := if has L t then (pl L t : Int) else -1
theorem has_iff {L : List Lo} {t : Int} : has L t = true ↔ ∃ l ∈ L, l.x = t := by simp [has]
theorem has_not {L : List Lo} {t : Int} : has L t = false ↔ ∀ l ∈ L, l.x ≠ t := by simp [has]
theorem pl_lt {L : List Lo} {t : Int} (h : has L t = true) : pl L t < L.length := by
  obtain ⟨l, hl, e⟩ := has_iff.1 h
  exact List.findIdx_lt_length_of_exists ⟨l, hl, by simpa using e⟩
theorem pl_at {L : List Lo} {t : Int} (h : has L t = true) : ∃ l, L[pl L t]? = some l ∧ l.x = t ∧ md L t = l.m := by
  induction L with
  | nil => simp [has] at h
  | cons a L ih =>
    by_cases ha : a.x = t
    · exact ⟨a, by simp [pl, List.findIdx_cons, ha], ha, by simp [md, ha]⟩
    · have h' : has L t = true := by simpa [has, ha] using h
      obtain ⟨l, h1, h2, h3⟩ := ih h'
      refine ⟨l, ?_, h2, ?_⟩
      · have : pl (a :: L) t = pl L t + 1 := by simp [pl, List.findIdx_cons, ha]
        rw [this]; simpa using h1
      · rw [← h3]; simp [md, ha]
theorem md_not {L : List Lo} {t : Int} (h : has L t = false) : md L t = 0 := by
  unfold md
  rw [List.find?_eq_none.2]
  intro l hl
  have := has_not.1 h l hl
  simpa using this
/-- What a lock wishes. -/
def wish (H : List Lo) (l : Lo) : Int := if has H l.x then join (md H l.x) l.m else l.m
/-- Who is in a lock's way. -/
def inWay (H : List Lo) (l h : Lo) : Bool := decide (h.x ≠ l.x) && !fit h.m (wish H l)
def way (H : List Lo) (l : Lo) : List Int := (H.filter (inWay H l)).map Lo.x
def can (H : List Lo) (l : Lo) : Bool := H.all fun h => !inWay H l h
theorem can_way {H : List Lo} {l : Lo} : can H l = (way H l).isEmpty := by
  rw [Bool.eq_iff_iff]
  unfold can way
  rw [List.all_eq_true, List.isEmpty_iff, List.map_eq_nil_iff, List.filter_eq_nil_iff]
  simp
theorem can_iff {H : List Lo} {l : Lo} : can H l = true ↔ ∀ h ∈ H, h.x ≠ l.x → fit h.m (wish H l) = true := by
  unfold can inWay
  rw [List.all_eq_true]
  constructor
  · intro h a ha hx
    have := h a ha
    simpa [hx] using this
  · intro h a ha
    have := h a ha
    by_cases hx : a.x = l.x
    · simp [hx]
    · simp [hx, this hx]
theorem can_nil (l : Lo) : can [] l = true := rfl
theorem can_not {H : List Lo} {l : Lo} (h : can H l = false) : ∃ a ∈ H, a.x ≠ l.x ∧ fit a.m (wish H l) = false := by
  apply Classical.byContradiction
  intro hn
  have : can H l = true := can_iff.2 fun a ha hx => by
    cases hf : fit a.m (wish H l) with
    | true => rfl
    | false => exact absurd ⟨a, ha, hx, hf⟩ hn
  rw [h] at this
  cases this
/-- A lock is given. -/
def give (H : List Lo) (l : Lo) : List Lo := if has H l.x then H.set (pl H l.x) ⟨l.x, wish H l⟩ else H ++ [⟨l.x, wish H l⟩]
theorem give_len (H : List Lo) (l : Lo) : (give H l).length = if has H l.x then H.length else H.length + 1 := by
  unfold give; split <;> simp
/-- In which place a lock stands in the queue. -/
def front (H Q : List Lo) : Nat := (Q.takeWhile fun q => has H q.x).length
def spot (H Q : List Lo) (t : Int) : Nat := if has H t then front H Q else Q.length
theorem front_le (H Q : List Lo) : front H Q ≤ Q.length := by
  unfold front
  exact (List.takeWhile_sublist (l := Q) _).length_le
theorem spot_le (H Q : List Lo) (t : Int) : spot H Q t ≤ Q.length := by
  unfold spot
  split
  · exact front_le H Q
  · exact Nat.le_refl _
/-- Asking at an item. -/
def now (x : It) (l : Lo) : Bool := can x.h l && (has x.h l.x || x.q.isEmpty)
def ask (x : It) (l : Lo) : It :=
  if now x l then ⟨x.i, give x.h l, x.q⟩ else ⟨x.i, x.h, x.q.take (spot x.h x.q l.x) ++ l :: x.q.drop (spot x.h x.q l.x)⟩
/-- Dropping: the locks of others. -/
def less (L : List Lo) (t : Int) : List Lo := L.filter fun l => decide (l.x ≠ t)
/-- Waking: what is held then, the queue, and to whom something was given. -/
def wake : List Lo → List Lo → List Lo × List Lo × List Int
  | H, [] => (H, [], [])
  | H, q :: Q => if can H q then ((wake (give H q) Q).1, (wake (give H q) Q).2.1, q.x :: (wake (give H q) Q).2.2) else (H, q :: Q, [])

/-! ### What is right -/
structure Rights (L : List Lo) : Prop where
  lo : ∀ l ∈ L, 0 ≤ l.x ∧ l.x < 12 ∧ 1 ≤ l.m ∧ l.m ≤ 5
  one : L.Pairwise fun a b => a.x ≠ b.x
def Fits (H : List Lo) : Prop := H.Pairwise fun a b => fit a.m b.m = true
structure Right (x : It) : Prop where
  ne : x.h ≠ []
  rh : Rights x.h
  rq : Rights x.q
  fh : Fits x.h
  wq : ∀ l Q, x.q = l :: Q → can x.h l = false
instance (L : List Lo) : Decidable (Rights L) := decidable_of_iff ((∀ l ∈ L, 0 ≤ l.x ∧ l.x < 12 ∧ 1 ≤ l.m ∧ l.m ≤ 5) ∧ L.Pairwise fun a b => a.x ≠ b.x) ⟨fun h => ⟨h.1, h.2⟩, fun h => ⟨h.lo, h.one⟩⟩
instance (L : List Lo) : Decidable (Fits L) := by unfold Fits; infer_instance
def firstOut (H : List Lo) : List Lo → Bool
  | [] => true
  | l :: _ => !can H l
def rightB (x : It) : Bool := !x.h.isEmpty && decide (Rights x.h) && decide (Rights x.q) && decide (Fits x.h) && firstOut x.h x.q
theorem right_iff {x : It} : rightB x = true ↔ Right x := by
  unfold rightB
  simp only [Bool.and_eq_true, decide_eq_true_eq, Bool.not_eq_true']
  constructor
  · rintro ⟨⟨⟨⟨h1, h2⟩, h3⟩, h4⟩, h5⟩
    refine ⟨(fun e => by rw [e] at h1; cases h1), h2, h3, h4, fun l Q e => ?_⟩
    rw [e] at h5
    simpa [firstOut] using h5
  · intro h
    refine ⟨⟨⟨⟨?_, h.rh⟩, h.rq⟩, h.fh⟩, ?_⟩
    · cases e : x.h with
      | nil => exact absurd e h.ne
      | cons _ _ => rfl
    · cases e : x.q with
      | nil => rfl
      | cons l Q => simp [firstOut, h.wq l Q e]
/-- What is wrong with a table, the least number that the next item may have handed on. -/
def chk : Int → List It → Int
  | _, [] => 0
  | n, x :: r => if item x.i = false then 1 else if x.i < n ∨ rightB x = false then 4 else chk (x.i + 1) r
def check (T : List It) : Int := if 20 < T.length then 2 else chk 0 T
structure Good (T : List It) : Prop where
  len : T.length ≤ 20
  it : ∀ x ∈ T, 0 ≤ x.i ∧ x.i < 20 ∧ Right x
  up : T.Pairwise fun a b => a.i < b.i
theorem chk_zero {n : Int} {T : List It} : chk n T = 0 ↔ (∀ x ∈ T, n ≤ x.i ∧ 0 ≤ x.i ∧ x.i < 20 ∧ Right x) ∧ T.Pairwise fun a b => a.i < b.i := by
  induction T generalizing n with
  | nil => simp [chk]
  | cons x r ih =>
    unfold chk
    rw [List.forall_mem_cons, List.pairwise_cons]
    cases hi : item x.i with
    | false =>
      rw [if_pos rfl]
      constructor
      · intro h; cases h
      · rintro ⟨⟨⟨_, h1, h2, _⟩, _⟩, _⟩
        have := item_iff.2 ⟨h1, h2⟩
        rw [hi] at this; cases this
    | true =>
      rw [if_neg (by simp)]
      have hii := item_iff.1 hi
      by_cases hb : x.i < n ∨ rightB x = false
      · rw [if_pos hb]
        constructor
        · intro h; cases h
        · rintro ⟨⟨⟨h0, _, _, h3⟩, _⟩, _⟩
          rcases hb with hb | hb
          · omega
          · rw [right_iff.2 h3] at hb; cases hb
      · rw [if_neg hb, ih]
        have hr : rightB x = true := by
          cases hr : rightB x with
          | true => rfl
          | false => exact absurd (.inr hr) hb
        have hn : n ≤ x.i := by
          apply Classical.byContradiction
          intro h
          exact hb (.inl (by omega))
        constructor
        · rintro ⟨h1, h2⟩
          exact ⟨⟨⟨hn, hii.1, hii.2, right_iff.1 hr⟩, fun y hy => ⟨by have := (h1 y hy).1; omega, (h1 y hy).2⟩⟩, fun y hy => by have := (h1 y hy).1; omega, h2⟩
        · rintro ⟨⟨_, h1⟩, h2, h3⟩
          exact ⟨fun y hy => ⟨by have := h2 y hy; omega, (h1 y hy).2⟩, h3⟩
theorem check_zero {T : List It} : check T = 0 ↔ Good T := by
  unfold check
  split
  · rename_i h
    constructor
    · intro e; cases e
    · intro g; have := g.len; omega
  · rename_i h
    rw [chk_zero]
    constructor
    · rintro ⟨h1, h2⟩
      exact ⟨by omega, fun x hx => (h1 x hx).2, h2⟩
    · intro g
      exact ⟨fun x hx => ⟨(g.it x hx).1, g.it x hx⟩, g.up⟩
theorem Good.nil : Good [] := ⟨by simp, by simp, List.Pairwise.nil⟩

theorem Rights.mode {L : List Lo} (h : Rights L) {l : Lo} (hl : l ∈ L) : Lk.mode l.m = true := mode_iff.2 ⟨(h.lo l hl).2.2.1, (h.lo l hl).2.2.2⟩
theorem Rights.len {L : List Lo} (h : Rights L) : L.length ≤ 12 := by
  have hn : (L.map fun l => l.x.toNat).Nodup := by
    rw [List.Nodup, List.pairwise_map]
    refine h.one.imp_of_mem fun {a b} ha hb hab => ?_
    have h1 := h.lo a ha
    have h2 := h.lo b hb
    omega
  have hs : (L.map fun l => l.x.toNat) ⊆ List.range 12 := fun n hn => by
    obtain ⟨l, hl, rfl⟩ := List.mem_map.1 hn
    have := h.lo l hl
    rw [List.mem_range]
    omega
  have := hn.length_le_of_subset hs
  simpa using this
theorem Rights.sub {L M : List Lo} (h : Rights L) (hs : M.Sublist L) : Rights M := ⟨fun l hl => h.lo l (hs.subset hl), h.one.sublist hs⟩
theorem Rights.same {L : List Lo} (h : Rights L) {a b : Lo} (ha : a ∈ L) (hb : b ∈ L) (e : a.x = b.x) : a = b := by
  have h1 := h.one
  clear h
  induction L with
  | nil => cases ha
  | cons c L ih =>
    obtain ⟨p1, p2⟩ := List.pairwise_cons.1 h1
    rcases List.mem_cons.1 ha with ea | ea
    · rcases List.mem_cons.1 hb with eb | eb
      · rw [ea, eb]
      · exact absurd (by rw [← ea]; exact e) (p1 b eb)
    · rcases List.mem_cons.1 hb with eb | eb
      · exact absurd (by rw [← eb]; exact e.symm) (p1 a ea)
      · exact ih ea eb p2
theorem md_of {L : List Lo} (h : Rights L) {l : Lo} (hl : l ∈ L) : md L l.x = l.m := by
  obtain ⟨k, h1, h2, h3⟩ := pl_at (has_iff.2 ⟨l, hl, rfl⟩)
  have : k = l := h.same (List.mem_of_getElem? h1) hl h2
  rw [h3, this]
theorem md_mode {L : List Lo} (h : Rights L) {t : Int} (ht : has L t = true) : Lk.mode (md L t) = true := by
  obtain ⟨k, h1, h2, h3⟩ := pl_at ht
  rw [h3]
  exact h.mode (List.mem_of_getElem? h1)
theorem md_pos {L : List Lo} (h : Rights L) (t : Int) : decide (0 < md L t) = has L t := by
  cases ht : has L t with
  | true =>
    have := mode_iff.1 (md_mode h ht)
    simp; omega
  | false => simp [md_not ht]
theorem wish_mode {H : List Lo} (h : Rights H) {l : Lo} (hl : Lk.mode l.m = true) : Lk.mode (wish H l) = true := by
  unfold wish
  split
  · rename_i ht
    exact join_mode (md_mode h ht) hl
  · exact hl
theorem give_mem {H : List Lo} (h : Rights H) {l a : Lo} : a ∈ give H l ↔ (a ∈ H ∧ a.x ≠ l.x) ∨ a = ⟨l.x, wish H l⟩ := by
  unfold give
  split
  · rename_i ht
    obtain ⟨k, h1, h2, h3⟩ := pl_at ht
    have hlt := pl_lt ht
    constructor
    · intro ha
      obtain ⟨j, hj, e⟩ := List.getElem_of_mem ha
      rw [List.getElem_set] at e
      split at e
      · exact .inr e.symm
      · rename_i hne
        left
        rw [List.length_set] at hj
        have hm : a ∈ H := by rw [← e]; exact List.getElem_mem hj
        refine ⟨hm, fun hx => ?_⟩
        have hk : k ∈ H := List.mem_of_getElem? h1
        have hak : a = k := h.same hm hk (hx.trans h2.symm)
        have hp := List.pairwise_iff_getElem.1 h.one
        have hke : H[pl H l.x] = k := by rw [List.getElem?_eq_getElem hlt] at h1; exact Option.some.inj h1
        rcases Nat.lt_or_ge (pl H l.x) j with hlt2 | hge
        · exact hp _ _ hlt hj hlt2 (by rw [hke, e, hak])
        · exact hp _ _ hj hlt (by omega) (by rw [hke, e, hak])
    · rintro (⟨ha, hx⟩ | rfl)
      · obtain ⟨j, hj, e⟩ := List.getElem_of_mem ha
        have hne : pl H l.x ≠ j := by
          intro hh
          rw [hh, List.getElem?_eq_getElem hj, e] at h1
          rw [Option.some.inj h1] at hx
          exact hx h2
        have : (H.set (pl H l.x) ⟨l.x, wish H l⟩)[j]'(by rw [List.length_set]; exact hj) = a := by rw [List.getElem_set_ne hne]; exact e
        rw [← this]
        exact List.getElem_mem _
      · exact List.mem_set hlt _
  · rename_i ht
    have ht := has_not.1 (Bool.eq_false_iff.2 ht)
    rw [List.mem_append, List.mem_singleton]
    constructor
    · rintro (ha | ha)
      · exact .inl ⟨ha, ht a ha⟩
      · exact .inr ha
    · rintro (⟨ha, _⟩ | ha)
      · exact .inl ha
      · exact .inr ha
theorem give_has {H : List Lo} (h : Rights H) (l : Lo) (t : Int) : has (give H l) t = (has H t || decide (l.x = t)) := by
  rw [Bool.eq_iff_iff, Bool.or_eq_true, has_iff, has_iff, decide_eq_true_eq]
  constructor
  · rintro ⟨a, ha, rfl⟩
    rcases (give_mem h).1 ha with ⟨h1, _⟩ | rfl
    · exact .inl ⟨a, h1, rfl⟩
    · exact .inr rfl
  · rintro (⟨a, ha, rfl⟩ | rfl)
    · by_cases hx : a.x = l.x
      · exact ⟨⟨l.x, wish H l⟩, (give_mem h).2 (.inr rfl), hx.symm⟩
      · exact ⟨a, (give_mem h).2 (.inl ⟨ha, hx⟩), rfl⟩
    · exact ⟨⟨l.x, wish H l⟩, (give_mem h).2 (.inr rfl), rfl⟩
theorem give_pair {P : Lo → Lo → Prop} {H : List Lo} (h : Rights H) {l : Lo} (hp : H.Pairwise P) (h1 : ∀ a ∈ H, a.x ≠ l.x → P a ⟨l.x, wish H l⟩ ∧ P ⟨l.x, wish H l⟩ a) : (give H l).Pairwise P := by
  unfold give
  split
  · rename_i ht
    obtain ⟨k, k1, k2, _⟩ := pl_at ht
    have hlt := pl_lt ht
    have hke : H[pl H l.x] = k := by rw [List.getElem?_eq_getElem hlt] at k1; exact Option.some.inj k1
    have ho := List.pairwise_iff_getElem.1 h.one
    rw [List.pairwise_iff_getElem] at hp ⊢
    intro i j hi hj hij
    rw [List.length_set] at hi hj
    rw [List.getElem_set, List.getElem_set]
    split
    · rename_i e1
      subst e1
      rw [if_neg (by omega)]
      refine (h1 _ (List.getElem_mem hj) ?_).2
      have := ho _ _ hi hj hij
      rw [hke, k2] at this
      exact fun e => this e.symm
    · split
      · rename_i e1 e2
        subst e2
        refine (h1 _ (List.getElem_mem hi) ?_).1
        have := ho _ _ hi hj hij
        rw [hke, k2] at this
        exact this
      · exact hp _ _ hi hj hij
  · rename_i ht
    have ht := has_not.1 (Bool.eq_false_iff.2 ht)
    rw [List.pairwise_append]
    refine ⟨hp, List.pairwise_singleton _ _, fun a ha b hb => ?_⟩
    rw [List.mem_singleton] at hb
    subst hb
    exact (h1 a ha (ht a ha)).1
def good1 (l : Lo) : Prop := 0 ≤ l.x ∧ l.x < 12 ∧ Lk.mode l.m = true
theorem give_rights {H : List Lo} (h : Rights H) {l : Lo} (hl : good1 l) : Rights (give H l) := by
  refine ⟨fun a ha => ?_, give_pair h h.one fun a _ hx => ⟨hx, fun e => hx e.symm⟩⟩
  rcases (give_mem h).1 ha with ⟨h1, _⟩ | rfl
  · exact h.lo a h1
  · have := mode_iff.1 (wish_mode h hl.2.2)
    exact ⟨hl.1, hl.2.1, this.1, this.2⟩
theorem give_fits {H : List Lo} (h : Rights H) (hf : Fits H) {l : Lo} (hc : can H l = true) : Fits (give H l) :=
  give_pair h hf fun a ha hx => ⟨can_iff.1 hc a ha hx, by rw [fit_comm]; exact can_iff.1 hc a ha hx⟩
theorem give_ne (H : List Lo) (l : Lo) : give H l ≠ [] := by
  unfold give
  split
  · rename_i ht
    have := pl_lt ht
    intro e
    have e2 := congrArg List.length e
    rw [List.length_set] at e2
    simp at e2
    rw [e2] at this
    simp at this
  · simp
theorem md_give {H : List Lo} (h : Rights H) {l : Lo} (hl : good1 l) {t : Int} (ht : t ≠ l.x) : md (give H l) t = md H t := by
  cases hh : has H t with
  | false =>
    rw [md_not hh, md_not]
    rw [give_has h, hh]
    simp
    exact fun e => ht e.symm
  | true =>
    obtain ⟨k, k1, k2, k3⟩ := pl_at hh
    rw [k3]
    have := md_of (give_rights h hl) (l := k) ((give_mem h).2 (.inl ⟨List.mem_of_getElem? k1, by rw [k2]; exact ht⟩))
    rwa [k2] at this
theorem md_give_self {H : List Lo} (h : Rights H) {l : Lo} (hl : good1 l) : md (give H l) l.x = wish H l :=
  md_of (give_rights h hl) (l := ⟨l.x, wish H l⟩) ((give_mem h).2 (.inr rfl))
theorem wish_give {H : List Lo} (h : Rights H) {l a : Lo} (hl : good1 l) (ha : a.x ≠ l.x) : wish (give H l) a = wish H a := by
  unfold wish
  rw [give_has h, md_give h hl ha]
  have : decide (l.x = a.x) = false := by simpa using fun e => ha e.symm
  rw [this, Bool.or_false]
/-- Whoever could not be given anything cannot when another one has got something. -/
theorem give_out {H : List Lo} (h : Rights H) {l a : Lo} (hl : good1 l) (ha : good1 a) (hx : a.x ≠ l.x) (hc : can H a = false) : can (give H l) a = false := by
  obtain ⟨b, hb, hbx, hf⟩ := can_not hc
  apply Bool.eq_false_iff.2
  intro hn
  rw [can_iff] at hn
  by_cases e : b.x = l.x
  · have hm := hn ⟨l.x, wish H l⟩ ((give_mem h).2 (.inr rfl)) (fun e2 => hx e2.symm)
    rw [wish_give h hl hx] at hm
    have hw : wish H l = join b.m l.m := by
      unfold wish
      rw [if_pos (has_iff.2 ⟨b, hb, e⟩), ← e, md_of h hb]
    rw [hw] at hm
    simp only at hm
    rw [join_fit (h.mode hb) hl.2.2 (wish_mode h ha.2.2), hf] at hm
    cases hm
  · have hm := hn b ((give_mem h).2 (.inl ⟨hb, e⟩)) hbx
    rw [wish_give h hl hx, hf] at hm
    cases hm

/-! ### Asking -/
theorem less_sub (L : List Lo) (t : Int) : (less L t).Sublist L := List.filter_sublist
theorem less_has (L : List Lo) (t s : Int) : has (less L t) s = (has L s && decide (s ≠ t)) := by
  rw [Bool.eq_iff_iff, Bool.and_eq_true, has_iff, has_iff, decide_eq_true_eq]
  constructor
  · rintro ⟨a, ha, rfl⟩
    have := List.mem_filter.1 ha
    exact ⟨⟨a, this.1, rfl⟩, by simpa using this.2⟩
  · rintro ⟨⟨a, ha, rfl⟩, hs⟩
    exact ⟨a, List.mem_filter.2 ⟨ha, by simpa using hs⟩, rfl⟩
theorem front_zero {H Q : List Lo} {l : Lo} {R : List Lo} (hq : Q = l :: R) (h : has H l.x = true) : 0 < front H Q := by
  subst hq
  unfold front
  rw [List.takeWhile_cons_of_pos (by exact h)]
  simp
theorem Rights.insert {Q : List Lo} (h : Rights Q) {l : Lo} (hl : good1 l) (hn : has Q l.x = false) (k : Nat) : Rights (Q.take k ++ l :: Q.drop k) := by
  have hq := has_not.1 hn
  have hm := mode_iff.1 hl.2.2
  have hp := h.one
  rw [← List.take_append_drop k Q, List.pairwise_append] at hp
  refine ⟨fun a ha => ?_, ?_⟩
  · rcases List.mem_append.1 ha with ha | ha
    · exact h.lo a (List.mem_of_mem_take ha)
    · rcases List.mem_cons.1 ha with rfl | ha
      · exact ⟨hl.1, hl.2.1, hm.1, hm.2⟩
      · exact h.lo a (List.mem_of_mem_drop ha)
  · rw [List.pairwise_append, List.pairwise_cons]
    refine ⟨hp.1, ⟨fun a ha => fun e => hq a (List.mem_of_mem_drop ha) e.symm, hp.2.1⟩, fun a ha b hb => ?_⟩
    rcases List.mem_cons.1 hb with rfl | hb
    · exact hq a (List.mem_of_mem_take ha)
    · exact hp.2.2 a ha b hb
/-- Asking keeps an item right. -/
theorem ask_right {x : It} (h : Right x) {l : Lo} (hl : good1 l) (hn : has x.q l.x = false) : Right (ask x l) := by
  unfold ask
  split
  · rename_i hw
    unfold now at hw
    rw [Bool.and_eq_true] at hw
    refine ⟨give_ne _ _, give_rights h.rh hl, h.rq, give_fits h.rh h.fh hw.1, fun a Q e => ?_⟩
    have ha : a ∈ x.q := by rw [show x.q = a :: Q from e]; exact .head _
    have hx := has_not.1 hn a ha
    have h1 := h.rq.lo a ha
    exact give_out h.rh hl ⟨h1.1, h1.2.1, h.rq.mode ha⟩ hx (h.wq a Q e)
  · rename_i hw
    refine ⟨h.ne, h.rh, h.rq.insert hl hn _, h.fh, fun a Q e => ?_⟩
    simp only at e
    cases hq : x.q with
    | nil =>
      rw [hq] at e
      simp at e
      obtain ⟨rfl, _⟩ := e
      apply Bool.eq_false_iff.2
      intro hc
      exact hw (by unfold now; rw [hc, hq]; simp)
    | cons b R =>
      rw [hq] at e
      by_cases hs : spot x.h (b :: R) l.x = 0
      · rw [hs] at e
        simp at e
        obtain ⟨rfl, _⟩ := e
        have hh : has x.h l.x = true := by
          cases hh : has x.h l.x with
          | true => rfl
          | false => unfold spot at hs; rw [hh] at hs; simp at hs
        apply Bool.eq_false_iff.2
        intro hc
        exact hw (by unfold now; rw [hc, hh]; rfl)
      · obtain ⟨k, hk⟩ : ∃ k, spot x.h (b :: R) l.x = k + 1 := ⟨_, (Nat.succ_pred hs).symm⟩
        rw [hk] at e
        simp at e
        obtain ⟨rfl, _⟩ := e
        exact h.wq b R hq
/-- A new item with one lock. -/
theorem new_right (i : Int) {l : Lo} (hl : good1 l) : Right (ask ⟨i, [], []⟩ l) ∧ ask ⟨i, [], []⟩ l = ⟨i, [l], []⟩ ∧ now ⟨i, [], []⟩ l = true := by
  have e : ask ⟨i, [], []⟩ l = ⟨i, [l], []⟩ := rfl
  refine ⟨?_, e, rfl⟩
  have hm := mode_iff.1 hl.2.2
  rw [e]
  refine ⟨by simp, ⟨fun a ha => ?_, List.pairwise_singleton _ _⟩, ⟨by simp, List.Pairwise.nil⟩, List.pairwise_singleton _ _, fun a Q e => by simp at e⟩
  rw [List.mem_singleton] at ha
  subst ha
  exact ⟨hl.1, hl.2.1, hm.1, hm.2⟩

/-! ### Waking -/
theorem wake_right {H Q : List Lo} (hH : Rights H) (hQ : Rights Q) (hF : Fits H) : Rights (wake H Q).1 ∧ Rights (wake H Q).2.1 ∧ Fits (wake H Q).1 ∧ (∀ l R, (wake H Q).2.1 = l :: R → can (wake H Q).1 l = false) ∧ (H ≠ [] → (wake H Q).1 ≠ []) ∧ ((wake H Q).1 = [] → (wake H Q).2.1 = []) := by
  induction Q generalizing H with
  | nil => exact ⟨hH, hQ, hF, fun l R e => by simp [wake] at e, fun h => h, fun _ => rfl⟩
  | cons q Q ih =>
    unfold wake
    cases hc : can H q with
    | true =>
      rw [if_pos rfl]
      have h1 := hQ.lo q (.head _)
      have hg : good1 q := ⟨h1.1, h1.2.1, hQ.mode (.head _)⟩
      obtain ⟨i1, i2, i3, i4, i5, i6⟩ := ih (give_rights hH hg) (hQ.sub (List.sublist_cons_self _ _)) (give_fits hH hF hc)
      exact ⟨i1, i2, i3, i4, fun _ => i5 (give_ne _ _), i6⟩
    | false =>
      rw [if_neg (by simp)]
      refine ⟨hH, hQ, hF, fun l R e => ?_, fun h => h, fun e => ?_⟩
      · injection e with e1 e2
        rw [← e1]; exact hc
      · simp only at e
        rw [e, can_nil] at hc
        cases hc
theorem wake_has {H Q : List Lo} (hH : Rights H) (hQ : Rights Q) {t : Int} (h1 : has H t = false) (h2 : has Q t = false) : has (wake H Q).1 t = false ∧ has (wake H Q).2.1 t = false ∧ t ∉ (wake H Q).2.2 := by
  induction Q generalizing H with
  | nil => exact ⟨h1, h2, by simp [wake]⟩
  | cons q Q ih =>
    have h3 : q.x ≠ t := has_not.1 h2 q (.head _)
    have h4 : has Q t = false := has_not.2 fun l hl => has_not.1 h2 l (.tail _ hl)
    unfold wake
    split
    · have hq := hQ.lo q (.head _)
      have hg : good1 q := ⟨hq.1, hq.2.1, hQ.mode (.head _)⟩
      obtain ⟨i1, i2, i3⟩ := ih (give_rights hH hg) (hQ.sub (List.sublist_cons_self _ _)) (by rw [give_has hH, h1]; simpa using h3) h4
      refine ⟨i1, i2, ?_⟩
      simp only [List.mem_cons, not_or]
      exact ⟨fun e => h3 e.symm, i3⟩
    · exact ⟨h1, h2, by simp⟩

/-! ### Tables -/
/-- The item in whose place one stands, or would. -/
def at_ (T : List It) (i : Int) : Nat := (T.takeWhile fun x => decide (x.i < i)).length
def there (T : List It) (i : Int) : Bool := match T[at_ T i]? with | some x => decide (x.i = i) | none => false
def withI (T : List It) (i : Int) : List It := if there T i then T else T.take (at_ T i) ++ ⟨i, [], []⟩ :: T.drop (at_ T i)
def inQ (T : List It) (t : Int) : Bool := T.any fun x => has x.q t
def got (T : List It) (i : Int) : It := if there T i then T[at_ T i]! else ⟨i, [], []⟩
def askT (T : List It) (i : Int) (l : Lo) : List It := (withI T i).set (at_ T i) (ask (got T i) l)
def askB (T : List It) (i : Int) (l : Lo) : Bool := now (got T i) l
theorem at_le (T : List It) (i : Int) : at_ T i ≤ T.length := by
  unfold at_
  exact (List.takeWhile_sublist (l := T) _).length_le
theorem there_some {T : List It} {i : Int} (h : there T i = true) : ∃ x, T[at_ T i]? = some x ∧ x.i = i := by
  unfold there at h
  split at h
  · rename_i x hx
    exact ⟨x, hx, by simpa using h⟩
  · cases h
theorem withI_at (T : List It) (i : Int) : (withI T i)[at_ T i]? = some (got T i) := by
  unfold withI got
  cases h : there T i with
  | true =>
    obtain ⟨x, hx, _⟩ := there_some h
    rw [if_pos rfl, if_pos rfl, hx]
    congr 1
    rw [List.getElem!_eq_getElem?_getD, hx]; rfl
  | false =>
    rw [if_neg (by simp), if_neg (by simp), List.getElem?_append_right (by rw [List.length_take]; exact Nat.min_le_left _ _), List.length_take, Nat.min_eq_left (at_le T i), Nat.sub_self]
    rfl
/-- The same from the front. -/
def askR (i : Int) (l : Lo) : List It → List It × Bool
  | [] => ([⟨i, [l], []⟩], true)
  | x :: r => if x.i < i then (x :: (askR i l r).1, (askR i l r).2) else if x.i = i then (ask x l :: r, now x l) else (⟨i, [l], []⟩ :: x :: r, true)
theorem at_cons (x : It) (r : List It) (i : Int) : at_ (x :: r) i = if x.i < i then at_ r i + 1 else 0 := by
  unfold at_
  by_cases h : x.i < i
  · rw [if_pos h, List.takeWhile_cons_of_pos (by simpa using h)]; rfl
  · rw [if_neg h, List.takeWhile_cons_of_neg (by simpa using h)]; rfl
theorem askT_front (T : List It) (i : Int) (l : Lo) : askR i l T = (askT T i l, askB T i l) := by
  induction T with
  | nil => rfl
  | cons x r ih =>
    unfold askR
    by_cases h1 : x.i < i
    · rw [if_pos h1, ih]
      have ha : at_ (x :: r) i = at_ r i + 1 := by rw [at_cons, if_pos h1]
      have ht : there (x :: r) i = there r i := by unfold there; rw [ha]; rfl
      have hg : got (x :: r) i = got r i := by
        unfold got
        rw [ht, ha]
        split
        · simp
        · rfl
      unfold askT askB
      rw [hg, ha]
      congr 1
      unfold withI
      rw [ht, ha]
      split <;> simp
    · rw [if_neg h1]
      have ha : at_ (x :: r) i = 0 := by rw [at_cons, if_neg h1]
      by_cases h2 : x.i = i
      · rw [if_pos h2]
        have ht : there (x :: r) i = true := by unfold there; rw [ha]; simpa using h2
        unfold askT askB got withI
        rw [ht, ha]
        rfl
      · rw [if_neg h2]
        have ht : there (x :: r) i = false := by unfold there; rw [ha]; simpa using h2
        unfold askT askB got withI
        rw [ht, ha]
        rfl
theorem askR_i (i : Int) (l : Lo) (T : List It) {y : It} (h : y ∈ (askR i l T).1) : y.i = i ∨ y ∈ T := by
  induction T with
  | nil => simp [askR] at h; subst h; exact .inl rfl
  | cons x r ih =>
    unfold askR at h
    split at h
    · rcases List.mem_cons.1 h with rfl | h
      · exact .inr (.head _)
      · rcases ih h with e | e
        · exact .inl e
        · exact .inr (.tail _ e)
    · split at h
      · rename_i h2
        rcases List.mem_cons.1 h with rfl | h
        · left
          unfold ask
          split <;> exact h2
        · exact .inr (.tail _ h)
      · rcases List.mem_cons.1 h with rfl | h
        · exact .inl rfl
        · exact .inr h
theorem askR_up (i : Int) (l : Lo) {T : List It} (h : T.Pairwise fun a b => a.i < b.i) : (askR i l T).1.Pairwise fun a b => a.i < b.i := by
  induction T with
  | nil => exact List.pairwise_singleton _ _
  | cons x r ih =>
    obtain ⟨h1, h2⟩ := List.pairwise_cons.1 h
    unfold askR
    split
    · rename_i hx
      refine List.pairwise_cons.2 ⟨fun y hy => ?_, ih h2⟩
      rcases askR_i i l r hy with e | e
      · omega
      · exact h1 y e
    · rename_i hx
      split
      · refine List.pairwise_cons.2 ⟨fun y hy => ?_, h2⟩
        have := h1 y hy
        unfold ask
        split <;> exact this
      · rename_i hx2
        refine List.pairwise_cons.2 ⟨fun y hy => ?_, h⟩
        rcases List.mem_cons.1 hy with rfl | hy
        · show i < _; omega
        · have := h1 y hy
          show i < _; omega
theorem up_len {T : List It} (h : ∀ x ∈ T, 0 ≤ x.i ∧ x.i < 20) (hp : T.Pairwise fun a b => a.i < b.i) : T.length ≤ 20 := by
  have hn : (T.map fun x => x.i.toNat).Nodup := by
    rw [List.Nodup, List.pairwise_map]
    refine hp.imp_of_mem fun {a b} ha hb hab => ?_
    have h1 := h a ha
    have h2 := h b hb
    omega
  have hs : (T.map fun x => x.i.toNat) ⊆ List.range 20 := fun n hn => by
    obtain ⟨l, hl, rfl⟩ := List.mem_map.1 hn
    have := h l hl
    rw [List.mem_range]
    omega
  have := hn.length_le_of_subset hs
  simpa using this
theorem askR_right {i : Int} {l : Lo} (hl : good1 l) {T : List It} (h : ∀ x ∈ T, Right x ∧ has x.q l.x = false) : ∀ y ∈ (askR i l T).1, Right y := by
  induction T with
  | nil =>
    intro y hy
    simp [askR] at hy
    subst hy
    have := new_right i hl
    rw [this.2.1] at this
    exact this.1
  | cons x r ih =>
    have hr := fun y hy => h y (.tail x hy)
    have hx := h x (.head _)
    intro y hy
    unfold askR at hy
    split at hy
    · rcases List.mem_cons.1 hy with rfl | hy
      · exact hx.1
      · exact ih hr y hy
    · split at hy
      · rcases List.mem_cons.1 hy with rfl | hy
        · exact ask_right hx.1 hl hx.2
        · exact (hr y hy).1
      · rcases List.mem_cons.1 hy with rfl | hy
        · have := new_right i hl
          rw [this.2.1] at this
          exact this.1
        · exact (h y hy).1
theorem inQ_not {T : List It} {t : Int} (h : inQ T t = false) : ∀ x ∈ T, has x.q t = false := fun x hx => by
  unfold inQ at h
  cases e : has x.q t with
  | false => rfl
  | true =>
    rw [List.any_eq_true.2 ⟨x, hx, e⟩] at h
    cases h
/-- Asking keeps a table right. -/
theorem askT_good {T : List It} (h : Good T) {i : Int} {l : Lo} (hi : 0 ≤ i ∧ i < 20) (hl : good1 l) (hn : inQ T l.x = false) : Good (askT T i l) := by
  have e : askT T i l = (askR i l T).1 := by rw [askT_front]
  rw [e]
  have hup := askR_up i l h.up
  have hr := askR_right (i := i) hl (T := T) fun x hx => ⟨(h.it x hx).2.2, inQ_not hn x hx⟩
  have hb : ∀ y ∈ (askR i l T).1, 0 ≤ y.i ∧ y.i < 20 := fun y hy => by
    rcases askR_i i l T hy with e | e
    · omega
    · exact ⟨(h.it y e).1, (h.it y e).2.1⟩
  exact ⟨up_len hb hup, fun y hy => ⟨(hb y hy).1, (hb y hy).2, hr y hy⟩, hup⟩

/-- Dropping: of an item; of all. -/
def drop1 (t : Int) (x : It) : It := ⟨x.i, (wake (less x.h t) (less x.q t)).1, (wake (less x.h t) (less x.q t)).2.1⟩
def to1 (t : Int) (x : It) : List Int := (wake (less x.h t) (less x.q t)).2.2
def full (x : It) : Bool := !x.h.isEmpty
def dropT (T : List It) (t : Int) : List It := (T.map (drop1 t)).filter full
def dropL (T : List It) (t : Int) : List Int := T.flatMap (to1 t)
theorem Fits.sub {L M : List Lo} (h : Fits L) (hs : M.Sublist L) : Fits M := List.Pairwise.sublist hs h
theorem drop1_right {x : It} (h : Right x) (t : Int) (hf : full (drop1 t x) = true) : Right (drop1 t x) := by
  have w := wake_right (h.rh.sub (less_sub _ t)) (h.rq.sub (less_sub _ t)) (h.fh.sub (less_sub _ t))
  refine ⟨fun e => ?_, w.1, w.2.1, w.2.2.1, w.2.2.2.1⟩
  unfold full at hf
  rw [e] at hf
  cases hf
theorem dropT_mem {T : List It} {t : Int} {y : It} : y ∈ dropT T t ↔ ∃ x ∈ T, drop1 t x = y ∧ full y = true := by
  unfold dropT
  rw [List.mem_filter, List.mem_map]
  constructor
  · rintro ⟨⟨x, hx, e⟩, hf⟩
    exact ⟨x, hx, e, hf⟩
  · rintro ⟨x, hx, e, hf⟩
    exact ⟨⟨x, hx, e⟩, hf⟩
/-- Dropping keeps a table right. -/
theorem dropT_good {T : List It} (h : Good T) (t : Int) : Good (dropT T t) := by
  have hup : (dropT T t).Pairwise fun a b => a.i < b.i := by
    unfold dropT
    exact List.Pairwise.sublist List.filter_sublist (List.pairwise_map.2 h.up)
  refine ⟨?_, fun y hy => ?_, hup⟩
  · have := List.length_filter_le full (T.map (drop1 t))
    rw [List.length_map] at this
    have := h.len
    show (List.filter _ _).length ≤ 20
    omega
  · obtain ⟨x, hx, rfl, hf⟩ := dropT_mem.1 hy
    have := h.it x hx
    exact ⟨this.1, this.2.1, drop1_right this.2.2 t hf⟩
/-- Who dropped all has nothing. -/
theorem dropT_none {T : List It} (h : Good T) (t : Int) : (∀ y ∈ dropT T t, has y.h t = false ∧ has y.q t = false) ∧ t ∉ dropL T t := by
  have w : ∀ x ∈ T, _ := fun x hx => wake_has (t := t) ((h.it x hx).2.2.rh.sub (less_sub _ t)) ((h.it x hx).2.2.rq.sub (less_sub _ t)) (by rw [less_has]; simp) (by rw [less_has]; simp)
  refine ⟨fun y hy => ?_, fun hm => ?_⟩
  · obtain ⟨x, hx, rfl, hf⟩ := dropT_mem.1 hy
    exact ⟨(w x hx).1, (w x hx).2.1⟩
  · obtain ⟨x, hx, hm⟩ := List.mem_flatMap.1 hm
    exact (w x hx).2.2 hm
/-- And it stays so, whoever else drops all. -/
theorem dropT_still {T : List It} (h : Good T) (t s : Int) (hs : ∀ y ∈ T, has y.h s = false ∧ has y.q s = false) : ∀ y ∈ dropT T t, has y.h s = false ∧ has y.q s = false := fun y hy => by
  obtain ⟨x, hx, rfl, hf⟩ := dropT_mem.1 hy
  have w := wake_has (t := s) ((h.it x hx).2.2.rh.sub (less_sub _ t)) ((h.it x hx).2.2.rq.sub (less_sub _ t)) (by rw [less_has, (hs x hx).1]; rfl) (by rw [less_has, (hs x hx).2]; rfl)
  exact ⟨w.1, w.2.1⟩
def dropAll : Nat → List It → List It
  | 0, T => T
  | k + 1, T => dropT (dropAll k T) k
theorem dropAll_good {T : List It} (h : Good T) (k : Nat) : Good (dropAll k T) ∧ ∀ s : Nat, s < k → ∀ y ∈ dropAll k T, has y.h s = false ∧ has y.q s = false := by
  induction k with
  | zero => exact ⟨h, fun s hs => by omega⟩
  | succ k ih =>
    refine ⟨dropT_good ih.1 k, fun s hs => ?_⟩
    by_cases e : s = k
    · subst e; exact (dropT_none ih.1 s).1
    · exact dropT_still ih.1 k s (ih.2 s (by omega))
theorem dropAll_none {T : List It} (h : Good T) : dropAll 12 T = [] := by
  obtain ⟨g, hn⟩ := dropAll_good h 12
  generalize dropAll 12 T = U at *
  cases U with
  | nil => rfl
  | cons x r =>
    have hx := g.it x (.head _)
    cases e : x.h with
    | nil => exact absurd e hx.2.2.ne
    | cons l L =>
      have hl := hx.2.2.rh.lo l (by rw [e]; exact .head _)
      have := (hn l.x.toNat (by omega) x (.head _)).1
      rw [show ((l.x.toNat : Nat) : Int) = l.x by omega] at this
      exact absurd rfl (has_not.1 this l (by rw [e]; exact .head _))

/-! ### Waiting -/
/-- Whom the lock at a place of the queue waits for. -/
def for_ (x : It) (k : Nat) (l : Lo) (b : Int) : Bool := decide (b ∈ way x.h l) || has (x.q.take k) b
def waitI (x : It) (a b : Int) : Bool := (List.range x.q.length).any fun k => match x.q[k]? with | some l => decide (l.x = a) && for_ x k l b | none => false
def wait (T : List It) (a b : Int) : Bool := T.any fun x => waitI x a b
theorem waitI_iff {x : It} {a b : Int} : waitI x a b = true ↔ ∃ k l, x.q[k]? = some l ∧ l.x = a ∧ for_ x k l b = true := by
  unfold waitI
  rw [List.any_eq_true]
  constructor
  · rintro ⟨k, hk, h⟩
    split at h
    · rename_i l hl
      rw [Bool.and_eq_true, decide_eq_true_eq] at h
      exact ⟨k, l, hl, h.1, h.2⟩
    · cases h
  · rintro ⟨k, l, hl, ha, h⟩
    refine ⟨k, List.mem_range.2 (List.getElem?_eq_some_iff.1 hl).1, ?_⟩
    rw [hl]
    simp [ha, h]
theorem way_iff {H : List Lo} {l : Lo} {b : Int} : b ∈ way H l ↔ ∃ h ∈ H, h.x = b ∧ h.x ≠ l.x ∧ fit h.m (wish H l) = false := by
  unfold way inWay
  rw [List.mem_map]
  constructor
  · rintro ⟨h, hh, rfl⟩
    have := List.mem_filter.1 hh
    refine ⟨h, this.1, rfl, ?_⟩
    simpa using this.2
  · rintro ⟨h, hh, rfl, hx, hf⟩
    exact ⟨h, List.mem_filter.2 ⟨hh, by simp [hx, hf]⟩, rfl⟩
/-- Who waits waits for someone. -/
theorem waits_some {x : It} (h : Right x) {l : Lo} (hl : l ∈ x.q) : ∃ b : Int, 0 ≤ b ∧ b < 12 ∧ waitI x l.x b = true := by
  obtain ⟨k, hk, e⟩ := List.getElem_of_mem hl
  have hk' : x.q[k]? = some l := by rw [List.getElem?_eq_getElem hk, e]
  cases hq : x.q with
  | nil => rw [hq] at hl; cases hl
  | cons q Q =>
    cases k with
    | zero =>
      rw [hq] at hk'
      simp at hk'
      subst hk'
      obtain ⟨a, ha, hx, hf⟩ := can_not (h.wq q Q hq)
      have := h.rh.lo a ha
      refine ⟨a.x, this.1, this.2.1, waitI_iff.2 ⟨0, q, by rw [hq]; rfl, rfl, ?_⟩⟩
      unfold for_
      rw [Bool.or_eq_true, decide_eq_true_eq]
      exact .inl (way_iff.2 ⟨a, ha, rfl, hx, hf⟩)
    | succ k =>
      have := h.rq.lo q (by rw [hq]; exact .head _)
      refine ⟨q.x, this.1, this.2.1, waitI_iff.2 ⟨k + 1, l, hk', rfl, ?_⟩⟩
      unfold for_
      rw [Bool.or_eq_true]
      right
      rw [hq, List.take_succ_cons]
      exact has_iff.2 ⟨q, .head _, rfl⟩

/-! ### Edges by rows -/
def rowTo (R : Nat → Nat → Bool) (i j : Nat) : List Gr.Ed := (List.range j).filterMap fun k => if R i k then some (Gr.ed i k) else none
def edgesTo (R : Nat → Nat → Bool) (i j : Nat) : List Gr.Ed := (List.range i).flatMap (fun a => rowTo R a 12) ++ rowTo R i j
theorem edgesTo_start (R : Nat → Nat → Bool) : edgesTo R 0 0 = [] := rfl
theorem rowTo_next (R : Nat → Nat → Bool) (i j : Nat) : rowTo R i (j + 1) = rowTo R i j ++ if R i j then [Gr.ed i j] else [] := by
  unfold rowTo
  rw [List.range_succ, List.filterMap_append]
  congr 1
  cases h : R i j <;> simp [h]
theorem edgesTo_next (R : Nat → Nat → Bool) (i j : Nat) : edgesTo R i (j + 1) = edgesTo R i j ++ if R i j then [Gr.ed i j] else [] := by
  unfold edgesTo
  rw [rowTo_next, List.append_assoc]
theorem edgesTo_round (R : Nat → Nat → Bool) (i : Nat) : edgesTo R (i + 1) 0 = edgesTo R i 12 := by
  unfold edgesTo
  rw [List.range_succ, List.flatMap_append]
  simp [rowTo]
theorem edge_next {R : Nat → Nat → Bool} {i j : Nat} (h : R i j = true) : edgesTo R i (j + 1) = edgesTo R i j ++ [Gr.ed i j] := by rw [edgesTo_next, if_pos h]
theorem edge_skip {R : Nat → Nat → Bool} {i j : Nat} (h : R i j = false) : edgesTo R i (j + 1) = edgesTo R i j := by rw [edgesTo_next, h]; simp
theorem rowTo_len (R : Nat → Nat → Bool) (i j : Nat) : (rowTo R i j).length ≤ j := by
  unfold rowTo
  have := List.length_filterMap_le (fun k => if R i k then some (Gr.ed i k) else none) (List.range j)
  simpa using this
theorem edgesTo_len (R : Nat → Nat → Bool) (i j : Nat) : (edgesTo R i j).length ≤ i * 12 + j := by
  induction i with
  | zero => simpa [edgesTo] using rowTo_len R 0 j
  | succ i ih =>
    have h1 := rowTo_len R (i + 1) j
    have h2 : ((List.range i).flatMap (fun a => rowTo R a 12)).length ≤ i * 12 := by
      clear ih h1
      induction i with
      | zero => simp
      | succ i ih =>
        rw [List.range_succ, List.flatMap_append, List.length_append]
        have := rowTo_len R i 12
        simp
        simp at ih
        omega
    unfold edgesTo
    rw [List.range_succ, List.flatMap_append]
    have h3 := rowTo_len R i 12
    simp
    simp at h2
    omega
def rel (T : List It) (i j : Nat) : Bool := wait T i j
def waits (T : List It) : List Gr.Ed := edgesTo (rel T) 12 0
theorem rowTo_mem {R : Nat → Nat → Bool} {i j : Nat} {e : Gr.Ed} : e ∈ rowTo R i j ↔ ∃ k < j, R i k = true ∧ e = Gr.ed i k := by
  unfold rowTo
  rw [List.mem_filterMap]
  constructor
  · rintro ⟨k, hk, h⟩
    split at h
    · rename_i hr
      exact ⟨k, List.mem_range.1 hk, hr, (Option.some.inj h).symm⟩
    · cases h
  · rintro ⟨k, hk, hr, rfl⟩
    exact ⟨k, List.mem_range.2 hk, by rw [if_pos hr]⟩
theorem waits_mem {T : List It} {i j : Nat} (hi : i < 12) (hj : j < 12) (h : rel T i j = true) : Gr.ed i j ∈ waits T := by
  unfold waits edgesTo
  rw [List.mem_append]
  left
  exact List.mem_flatMap.2 ⟨i, List.mem_range.2 hi, rowTo_mem.2 ⟨j, hj, h, rfl⟩⟩
/-- Whoever is in a queue has an edge to someone. -/
theorem waits_all {T : List It} (h : Good T) {x : It} (hx : x ∈ T) {l : Lo} (hl : l ∈ x.q) : ∃ e ∈ waits T, e.f = l.x := by
  have hr := h.it x hx
  obtain ⟨b, b0, b1, hw⟩ := waits_some hr.2.2 hl
  have h1 := hr.2.2.rq.lo l hl
  refine ⟨Gr.ed l.x.toNat b.toNat, waits_mem (by omega) (by omega) ?_, ?_⟩
  · unfold rel wait
    rw [List.any_eq_true]
    refine ⟨x, hx, ?_⟩
    rw [show ((l.x.toNat : Nat) : Int) = l.x by omega, show ((b.toNat : Nat) : Int) = b by omega]
    exact hw
  · show ((l.x.toNat : Nat) : Int) = l.x
    omega
end Lk
end Go.Proofs.Ytjoaedkgjnchoan.PLock
