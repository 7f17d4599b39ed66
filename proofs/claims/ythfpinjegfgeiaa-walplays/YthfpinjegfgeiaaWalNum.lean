/- A log's plain mathematics: heads, records cut into sectors, how they are read, what is told of sectors of which some were lost. No program in it. -/
import Derived.Test.YthfpinjegfgeiaaRest
import Derived.Test.YthfpinjegfgeiaaFoldNum
namespace Go.Proofs.Ythfpinjegfgeiaa
namespace Wl
open PCode PFold

abbrev By := List UInt8
def I64 (e : Int) : Prop := -9223372036854775808 ≤ e ∧ e ≤ 9223372036854775807
def intB (k : Int) : By := Nb.natB (Nb.zig k)
def headB (m : UInt8) (e n : Int) : By := m :: (intB e ++ intB n)
def sumF (c : By) : By := c ++ Fo.four (Fo.sum c)
def bytesOf (t : By) : By := sumF (Nb.natB t.length ++ t)
def padB (l : By) : By := l ++ List.replicate (64 - l.length) 0
/-- What is left, cut into sectors: the first has another head. -/
def cut (h2 : By) : By → Nat → By → List By
  | _, 0, _ => []
  | h1, f + 1, r => if r = [] then [] else (h1 ++ r.take (64 - h1.length)) :: cut h2 h2 f (r.drop (64 - h1.length))
def secsOf (e n : Int) (t : By) : List By := cut (headB 2 e n) (headB 1 e n) (bytesOf t).length (bytesOf t)
/-- The epoch that a sector's head tells (0: none). -/
def ep (s : By) : Int := (Nb.getI (s.drop 1)).1

theorem zag_zig (k : Int) : Nb.zag (Nb.zig k) = k := by
  unfold Nb.zag Nb.zig
  by_cases h : 0 ≤ k
  · rw [if_pos h, if_pos (by omega)]; omega
  · rw [if_neg h, if_neg (by omega)]; omega
theorem zig_zag (m : Nat) : Nb.zig (Nb.zag m) = m := by
  unfold Nb.zag Nb.zig
  by_cases h : m % 2 = 0
  · rw [if_pos h, if_pos (by omega)]; omega
  · rw [if_neg h, if_neg (by omega)]; omega
theorem zig_lt (k : Int) (h : I64 k) : Nb.zig k < 18446744073709551616 := by
  obtain ⟨h0, h1⟩ := h
  unfold Nb.zig
  split <;> omega
theorem zag_in (m : Nat) (h : m < 18446744073709551616) : I64 (Nb.zag m) := by
  unfold I64 Nb.zag
  split <;> omega
theorem getN_put (n : Nat) (more : By) (h : n < 18446744073709551616) : Nb.getN 0 0 (Nb.natB n ++ more) = (n, (Nb.natB n).length, 0) := by
  rw [Nb.get_put n 0 0 more (by omega) (by simpa using h) (Or.inl rfl)]; simp
theorem getI_int (e : Int) (he : I64 e) (more : By) : Nb.getI (intB e ++ more) = (e, (intB e).length, 0) := by
  unfold Nb.getI intB
  rw [getN_put _ _ (zig_lt e he)]
  simp [zag_zig]
theorem getI_only (l : By) (e : Int) (k : Nat) (h : Nb.getI l = (e, k, 0)) : l = intB e ++ l.drop k ∧ (intB e).length = k ∧ I64 e := by
  unfold Nb.getI at h
  obtain ⟨x, t, e', hG⟩ : ∃ x t e', Nb.getN 0 0 l = (x, t, e') := ⟨_, _, _, rfl⟩
  have hb := (Nb.get_bound l 0 0 (by omega) (by omega)).1
  rw [hG] at h hb
  simp only at h hb
  by_cases h0 : e' = 0
  · subst h0
    rw [if_pos rfl] at h
    simp only [Prod.mk.injEq, and_true] at h
    obtain ⟨rfl, rfl⟩ := h
    obtain ⟨m, hx, hm, hk, hk2, _⟩ := Nb.get_only l 0 0 x t hG
    simp at hx hm hk2
    subst hx
    have e1 : intB (Nb.zag x) = l.take t := by unfold intB; rw [zig_zag, hm]
    refine ⟨by rw [e1, List.take_append_drop], by rw [e1, List.length_take]; omega, zag_in x hb⟩
  · rw [if_neg h0] at h
    simp only [Prod.mk.injEq] at h
    exact absurd h.2.2 h0
theorem getI_err (l : By) (h : (Nb.getI l).2.2 ≠ 0) : (Nb.getI l).1 = 0 ∧ (Nb.getI l).2.1 = 0 := by
  unfold Nb.getI at h ⊢
  split
  · rename_i h0; rw [if_pos h0] at h; exact absurd rfl h
  · exact ⟨rfl, rfl⟩
theorem getI_in (l : By) : I64 (Nb.getI l).1 := by
  by_cases h : (Nb.getI l).2.2 = 0
  · exact (getI_only l _ _ (by rw [← h])).2.2
  · rw [(getI_err l h).1]; unfold I64; omega
theorem intB_len (e : Int) (he : I64 e) : 1 ≤ (intB e).length ∧ (intB e).length ≤ 10 := ⟨Nb.natB_pos _, Nb.natB_len10 _ (zig_lt e he)⟩
theorem head_len (m : UInt8) (e n : Int) (he : I64 e) (hn : I64 n) : 3 ≤ (headB m e n).length ∧ (headB m e n).length ≤ 21 := by
  have := intB_len e he
  have := intB_len n hn
  simp [headB]; omega
theorem head_len2 (m m' : UInt8) (e n : Int) : (headB m e n).length = (headB m' e n).length := by simp [headB]
theorem bytes_len (t : By) : (bytesOf t).length = (Nb.natB t.length).length + t.length + 4 := by
  unfold bytesOf sumF
  rw [List.length_append, List.length_append, Fo.four_len]
theorem ep_head (m : UInt8) (e n : Int) (he : I64 e) (more : By) : ep (headB m e n ++ more) = e := by
  unfold ep headB
  rw [List.cons_append, List.drop_succ_cons, List.drop_zero, List.append_assoc, getI_int e he]

/-! ### What is read -/
structure Rec where
  text : By
  epoch : Int
  size : Nat
def gather (h : By) (need : Nat) : List By → By → Nat → Option (By × Nat)
  | [], hv, u => if need ≤ hv.length then some (hv, u) else none
  | s :: r, hv, u => if need ≤ hv.length then some (hv, u) else if s.take h.length = h then gather h need r (hv ++ s.drop h.length) (u + 1) else none
def getHd (s : By) : Option (Int × Int × Nat) :=
  if s.head? = some 1 then
    (if (Nb.getI (s.drop 1)).2.2 = 0 then
      (if (Nb.getI (s.drop (1 + (Nb.getI (s.drop 1)).2.1))).2.2 = 0 then some ((Nb.getI (s.drop 1)).1, (Nb.getI (s.drop (1 + (Nb.getI (s.drop 1)).2.1))).1, 1 + (Nb.getI (s.drop 1)).2.1 + (Nb.getI (s.drop (1 + (Nb.getI (s.drop 1)).2.1))).2.1) else none)
     else none)
  else none
/-- The record's text, once its bytes are there. -/
def ends (e : Int) (k m : Nat) : Option (By × Nat) → Option Rec
  | none => none
  | some (b, u) => if sumF (b.take (k + m)) = b.take (k + m + 4) then some ⟨(b.drop k).take m, e, u⟩ else none
def getRec2 (e n : Int) (hv : By) (r : List By) : Option Rec :=
  if (Nb.getN 0 0 hv).2.2 = 0 ∧ (Nb.getN 0 0 hv).1 ≤ 300 then ends e (Nb.getN 0 0 hv).2.1 (Nb.getN 0 0 hv).1 (gather (headB 2 e n) ((Nb.getN 0 0 hv).2.1 + (Nb.getN 0 0 hv).1 + 4) r hv 1) else none
def getRec : List By → Int → Option Rec
  | [], _ => none
  | s :: r, n => match getHd s with
    | none => none
    | some (e, n', k) => if n' = n then getRec2 e n (s.drop k) r else none

theorem gather_stop (h : By) (need : Nat) (r : List By) (hv : By) (u : Nat) (hn : need ≤ hv.length) : gather h need r hv u = some (hv, u) := by
  cases r <;> rw [gather, if_pos hn]

theorem gather_local (h : By) (need : Nat) : ∀ (r : List By) (hv : By) (u : Nat) (b : By) (v : Nat), gather h need r hv u = some (b, v) →
    u ≤ v ∧ v - u ≤ r.length ∧ (∀ j, j < v - u → ∃ s, r[j]? = some s ∧ s.take h.length = h) ∧ ∀ r', r'.take (v - u) = r.take (v - u) → gather h need r' hv u = some (b, v) := by
  intro r
  induction r with
  | nil =>
    intro hv u b v hg
    rw [gather] at hg
    by_cases hn : need ≤ hv.length
    · rw [if_pos hn] at hg
      injection hg with hg; injection hg with e1 e2; subst e1; subst e2
      exact ⟨Nat.le_refl _, by omega, fun j hj => by omega, fun r' _ => gather_stop _ _ _ _ _ hn⟩
    · rw [if_neg hn] at hg; cases hg
  | cons s r ih =>
    intro hv u b v hg
    rw [gather] at hg
    by_cases hn : need ≤ hv.length
    · rw [if_pos hn] at hg
      injection hg with hg; injection hg with e1 e2; subst e1; subst e2
      exact ⟨Nat.le_refl _, by omega, fun j hj => by omega, fun r' _ => gather_stop _ _ _ _ _ hn⟩
    · rw [if_neg hn] at hg
      by_cases hs : s.take h.length = h
      · rw [if_pos hs] at hg
        obtain ⟨h1, h2, h3, h4⟩ := ih _ _ _ _ hg
        refine ⟨by omega, by simp; omega, fun j hj => ?_, fun r' hr => ?_⟩
        · cases j with
          | zero => exact ⟨s, rfl, hs⟩
          | succ j => exact h3 j (by omega)
        · have ev : v - u = (v - (u + 1)) + 1 := by omega
          rw [ev, List.take_succ_cons] at hr
          cases r' with
          | nil => simp at hr
          | cons s' r' =>
            rw [List.take_succ_cons] at hr
            injection hr with e1 e2
            subst e1
            rw [gather, if_neg hn, if_pos hs]
            exact h4 r' e2
      · rw [if_neg hs] at hg; cases hg

theorem getHd_some {s : By} {e n : Int} {k : Nat} (h : getHd s = some (e, n, k)) : ep s = e ∧ I64 e ∧ I64 n ∧ s = headB 1 e n ++ s.drop k ∧ k = (headB 1 e n).length := by
  unfold getHd at h
  by_cases h1 : s.head? = some 1
  · rw [if_pos h1] at h
    by_cases h2 : (Nb.getI (s.drop 1)).2.2 = 0
    · rw [if_pos h2] at h
      by_cases h3 : (Nb.getI (s.drop (1 + (Nb.getI (s.drop 1)).2.1))).2.2 = 0
      · rw [if_pos h3] at h
        injection h with h; injection h with e1 h; injection h with e2 e3
        have a := getI_only (s.drop 1) e (Nb.getI (s.drop 1)).2.1 (by rw [← e1, ← h2])
        have b := getI_only (s.drop (1 + (Nb.getI (s.drop 1)).2.1)) n (Nb.getI (s.drop (1 + (Nb.getI (s.drop 1)).2.1))).2.1 (by rw [← e2, ← h3])
        generalize (Nb.getI (s.drop 1)).2.1 = k1 at *
        generalize (Nb.getI (s.drop (1 + k1))).2.1 = k2 at *
        obtain ⟨a1, a2, a3⟩ := a
        obtain ⟨b1, b2, b3⟩ := b
        refine ⟨e1, a3, b3, ?_, ?_⟩
        · cases s with
          | nil => cases h1
          | cons x s =>
            simp at h1
            subst h1
            rw [List.drop_succ_cons, List.drop_zero] at a1
            rw [show 1 + k1 = k1 + 1 by omega, List.drop_succ_cons] at b1
            rw [← e3, show 1 + k1 + k2 = (k1 + k2) + 1 by omega, List.drop_succ_cons]
            unfold headB
            rw [List.drop_drop] at b1
            rw [List.cons_append, List.append_assoc, ← b1, ← a1]
        · rw [← e3, headB, List.length_cons, List.length_append, a2, b2]; omega
      · rw [if_neg h3] at h; cases h
    · rw [if_neg h2] at h; cases h
  · rw [if_neg h1] at h; cases h

theorem ends_some {e : Int} {k m : Nat} {g : Option (By × Nat)} {r : Rec} (h : ends e k m g = some r) : ∃ b u, g = some (b, u) ∧ r.epoch = e ∧ r.size = u := by
  cases g with
  | none => cases h
  | some x =>
    obtain ⟨b, u⟩ := x
    rw [ends] at h
    split at h
    · injection h with h; subst h; exact ⟨b, u, rfl, rfl, rfl⟩
    · cases h

theorem ep_pre {h s : By} {m : UInt8} {e n : Int} (he : I64 e) (hh : h = headB m e n) (hs : s.take h.length = h) : ep s = e := by
  have : s = h ++ s.drop h.length := by conv => lhs; rw [← List.take_append_drop h.length s, hs]
  rw [this, hh]
  exact ep_head m e n he _

/-- A record that is read: its sectors all have its epoch, and it is read off these sectors alone. -/
theorem rec_local {l : List By} {n : Int} {r : Rec} (h : getRec l n = some r) : 1 ≤ r.size ∧ r.size ≤ l.length ∧ (∀ j, j < r.size → ∃ s, l[j]? = some s ∧ ep s = r.epoch) ∧ I64 r.epoch ∧ ∀ l', l'.take r.size = l.take r.size → getRec l' n = some r := by
  cases l with
  | nil => cases h
  | cons s l =>
    rw [getRec] at h
    cases hd : getHd s with
    | none => rw [hd] at h; cases h
    | some x =>
      obtain ⟨e, n', k⟩ := x
      rw [hd] at h
      simp only at h
      by_cases hn : n' = n
      · rw [if_pos hn] at h
        have h' := h
        unfold getRec2 at h
        split at h
        · rename_i hc
          obtain ⟨b, u, hg, he, hu⟩ := ends_some h
          obtain ⟨h1, h2, h3, h4⟩ := gather_local _ _ _ _ _ _ _ hg
          obtain ⟨d1, d2, d3, d4, d5⟩ := getHd_some hd
          refine ⟨by omega, by simp; omega, fun j hj => ?_, by rw [he]; exact d2, fun l' hl => ?_⟩
          · cases j with
            | zero => exact ⟨s, rfl, by rw [he]; exact d1⟩
            | succ j =>
              obtain ⟨s', a1, a2⟩ := h3 j (by omega)
              exact ⟨s', a1, by rw [he]; exact ep_pre d2 rfl a2⟩
          · have eu : r.size = (u - 1) + 1 := by omega
            rw [eu, List.take_succ_cons] at hl
            cases l' with
            | nil => simp at hl
            | cons s' l' =>
              rw [List.take_succ_cons] at hl
              injection hl with e1 e2
              subst e1
              rw [getRec, hd]
              simp only
              rw [if_pos hn]
              unfold getRec2 at h' ⊢
              rw [if_pos hc, h4 l' e2]
              rw [if_pos hc, hg] at h'
              exact h'
        · cases h
      · rw [if_neg hn] at h; cases h

/-! ### What is put is read -/
theorem pad_drop (h x : By) : (padB (h ++ x)).drop h.length = x ++ List.replicate (64 - (h.length + x.length)) 0 := by
  unfold padB
  rw [List.append_assoc, List.drop_left' rfl, List.length_append]
theorem pad_take (h x : By) : (padB (h ++ x)).take h.length = h := by
  unfold padB
  rw [List.append_assoc, List.take_left' rfl]

theorem gather_cut (h b : By) (more : List By) (hh : h.length ≤ 21) : ∀ (f : Nat) (r hv : By) (u : Nat), r.length ≤ f → ((r = [] ∧ b.length ≤ hv.length ∧ hv.take b.length = b) ∨ (r ≠ [] ∧ hv ++ r = b)) →
    ∃ B, gather h b.length ((cut h h f r).map padB ++ more) hv u = some (B, u + (cut h h f r).length) ∧ B.take b.length = b := by
  intro f
  induction f with
  | zero =>
    intro r hv u hr hb
    have : r = [] := List.eq_nil_of_length_eq_zero (by omega)
    rcases hb with ⟨_, h1, h2⟩ | ⟨h1, _⟩
    · exact ⟨hv, by rw [gather_stop _ _ _ _ _ h1]; rfl, h2⟩
    · exact absurd this h1
  | succ f ih =>
    intro r hv u hr hb
    rcases hb with ⟨rfl, h1, h2⟩ | ⟨h1, h2⟩
    · exact ⟨hv, by rw [gather_stop _ _ _ _ _ h1, cut, if_pos rfl]; rfl, h2⟩
    · have hpos : 0 < r.length := List.length_pos_iff.2 h1
      have hlt : ¬ b.length ≤ hv.length := by rw [← h2, List.length_append]; omega
      rw [cut, if_neg h1, List.map_cons, List.cons_append, gather, if_neg hlt, pad_take, if_pos rfl, pad_drop]
      have hk : 43 ≤ 64 - h.length := by omega
      generalize hkk : 64 - h.length = k at *
      by_cases hrest : r.drop k = []
      · have hle : r.length ≤ k := by simpa using hrest
        have e1 : r.take k = r := List.take_of_length_le hle
        obtain ⟨B, g1, g2⟩ := ih (r.drop k) (hv ++ (r.take k ++ List.replicate (64 - (h.length + (r.take k).length)) 0)) (u + 1) (by rw [List.length_drop]; omega) (.inl ⟨hrest, by rw [e1, ← h2]; simp, by rw [e1, ← List.append_assoc, h2, List.take_left' rfl]⟩)
        exact ⟨B, by rw [g1]; simp; omega, g2⟩
      · have hle : k < r.length := by
          rcases Nat.lt_or_ge k r.length with e | e
          · exact e
          · exact absurd (List.drop_of_length_le e) hrest
        have e1 : (r.take k).length = k := by rw [List.length_take]; omega
        have e2 : 64 - (h.length + (r.take k).length) = 0 := by omega
        rw [e2, List.replicate_zero, List.append_nil]
        obtain ⟨B, g1, g2⟩ := ih (r.drop k) (hv ++ r.take k) (u + 1) (by rw [List.length_drop]; omega) (.inr ⟨hrest, by rw [List.append_assoc, List.take_append_drop, h2]⟩)
        exact ⟨B, by rw [g1]; simp; omega, g2⟩

theorem getHd_put (e n : Int) (he : I64 e) (hn : I64 n) (x : By) : getHd (headB 1 e n ++ x) = some (e, n, (headB 1 e n).length) := by
  have e1 : (headB 1 e n ++ x).drop 1 = intB e ++ (intB n ++ x) := by unfold headB; rw [List.cons_append, List.drop_succ_cons, List.drop_zero, List.append_assoc]
  have e2 : (headB 1 e n ++ x).drop (1 + (intB e).length) = intB n ++ x := by
    rw [← List.drop_drop, e1, List.drop_left' rfl]
  unfold getHd
  rw [if_pos (by rfl), e1, getI_int e he]
  simp only
  rw [if_pos trivial, e2, getI_int n hn]
  simp only
  rw [if_pos trivial]
  simp [headB]; omega

theorem secs_cons (e n : Int) (t : By) : ∃ f, (bytesOf t).length = f + 1 ∧ secsOf e n t = (headB 1 e n ++ (bytesOf t).take (64 - (headB 1 e n).length)) :: cut (headB 2 e n) (headB 2 e n) f ((bytesOf t).drop (64 - (headB 1 e n).length)) := by
  have h := bytes_len t
  obtain ⟨f, hf⟩ : ∃ f, (bytesOf t).length = f + 1 := ⟨(bytesOf t).length - 1, by omega⟩
  refine ⟨f, hf, ?_⟩
  unfold secsOf
  rw [hf, cut, if_neg (by intro e; rw [e] at hf; simp at hf)]

/-- A record that lies there is read. -/
theorem rec_put (e n : Int) (he : I64 e) (hn : I64 n) (t : By) (ht : t.length ≤ 300) (more : List By) : getRec ((secsOf e n t).map padB ++ more) n = some ⟨t, e, (secsOf e n t).length⟩ := by
  obtain ⟨f, hf, hs⟩ := secs_cons e n t
  have hl := head_len 1 e n he hn
  have hl2 := head_len2 2 1 e n
  have hb := bytes_len t
  have hnb : (Nb.natB t.length).length ≤ 10 := Nb.natB_len10 _ (by omega)
  rw [hs, List.map_cons, List.cons_append, getRec]
  have e0 : padB (headB 1 e n ++ (bytesOf t).take (64 - (headB 1 e n).length)) = headB 1 e n ++ ((bytesOf t).take (64 - (headB 1 e n).length) ++ List.replicate (64 - ((headB 1 e n).length + ((bytesOf t).take (64 - (headB 1 e n).length)).length)) 0) := by
    unfold padB; rw [List.append_assoc, List.length_append]
  rw [e0, getHd_put e n he hn]
  simp only
  rw [if_pos trivial, List.drop_left' rfl]
  have hk : 43 ≤ 64 - (headB 1 e n).length := by omega
  have hk2 : 64 - (headB 1 e n).length ≤ 61 := by omega
  have hz : ∀ x : Nat, 64 - ((headB 1 e n).length + x) = 64 - (headB 1 e n).length - x := fun x => by omega
  rw [hz]
  generalize 64 - (headB 1 e n).length = k at *
  obtain ⟨b, hbb⟩ : ∃ b, b = bytesOf t := ⟨_, rfl⟩
  have hb2 : b = Nb.natB t.length ++ (t ++ Fo.four (Fo.sum (Nb.natB t.length ++ t))) := by rw [hbb]; unfold bytesOf sumF; rw [List.append_assoc]
  rw [← hbb] at hf hb ⊢
  have hN : Nb.getN 0 0 (b.take k ++ List.replicate (k - (b.take k).length) 0) = (t.length, (Nb.natB t.length).length, 0) := by
    have e1 : b.take k = Nb.natB t.length ++ (t ++ Fo.four (Fo.sum (Nb.natB t.length ++ t))).take (k - (Nb.natB t.length).length) := by
      rw [hb2, List.take_append, List.take_of_length_le (by omega)]
    rw [e1, List.append_assoc]
    exact getN_put _ _ (by omega)
  unfold getRec2
  rw [hN]
  simp only
  rw [if_pos ⟨trivial, ht⟩, ← hb]
  obtain ⟨B, g1, g2⟩ := gather_cut (headB 2 e n) b more (by omega) f (b.drop k) (b.take k ++ List.replicate (k - (b.take k).length) 0) 1 (by rw [List.length_drop]; omega) (by
    by_cases hd : b.drop k = []
    · have hle : b.length ≤ k := by simpa using hd
      rw [List.take_of_length_le hle]
      exact .inl ⟨hd, by simp, by rw [List.take_left' rfl]⟩
    · have hle : k < b.length := by
        rcases Nat.lt_or_ge k b.length with e | e
        · exact e
        · exact absurd (List.drop_of_length_le e) hd
      have e1 : (b.take k).length = k := by rw [List.length_take]; omega
      rw [e1, Nat.sub_self, List.replicate_zero, List.append_nil]
      exact .inr ⟨hd, List.take_append_drop k b⟩)
  rw [g1, ends]
  have f1 : B.take ((Nb.natB t.length).length + t.length) = Nb.natB t.length ++ t := by
    have : B.take ((Nb.natB t.length).length + t.length) = (B.take b.length).take ((Nb.natB t.length).length + t.length) := by rw [List.take_take]; congr 1; omega
    rw [this, g2, hb2, ← List.append_assoc, List.take_left' (by simp)]
  have f2 : B.take ((Nb.natB t.length).length + t.length + 4) = b := by rw [← hb]; exact g2
  rw [f1, f2, if_pos (by rw [hbb]; rfl)]
  have f3 : (B.drop (Nb.natB t.length).length).take t.length = t := by
    have : (B.drop (Nb.natB t.length).length).take t.length = (B.take ((Nb.natB t.length).length + t.length)).drop (Nb.natB t.length).length := by
      rw [List.drop_take]; congr 1; omega
    rw [this, f1, List.drop_left' rfl]
  rw [f3, List.length_cons]
  congr 2
  omega

end Wl
end Go.Proofs.Ythfpinjegfgeiaa
