/- A log on a disk, as plain lists: what lies there while it is in use, and what any crash leaves. No program in it. -/
import Derived.Test.YthfpinjegfgeiaaWalOpen
namespace Go.Proofs.Ythfpinjegfgeiaa
open Go
set_option maxRecDepth 100000
open Wl (By Rec Chain Ends lastEp sizes getRec ep news recs Partial Mixed padB secsOf)

/-! ### Sectors as lists of bytes -/
def bl (s : ByteArray) : By := s.data.toList
def ar (L : List ByteArray) (a n : Nat) : List By := lists ((L.drop (a + 1)).take (n - 1))
theorem ar_at (L : List ByteArray) (a n k : Nat) : (ar L a n)[k]? = if k < n - 1 then (L[a + 1 + k]?).map bl else none := by
  unfold ar lists
  rw [List.getElem?_map, List.getElem?_take]
  split
  · rw [List.getElem?_drop]; rfl
  · rfl
theorem ar_len (L : List ByteArray) (a n : Nat) (h : a + n ≤ L.length) : (ar L a n).length = n - 1 := by
  unfold ar
  rw [lists_len, List.length_take, List.length_drop]
  omega
theorem ar_set (L : List ByteArray) (a n k : Nat) (s : ByteArray) : ar (L.set (a + 1 + k) s) a n = (ar L a n).set k (bl s) := by
  unfold ar lists
  rw [List.drop_set, if_neg (by omega), Nat.add_sub_cancel_left, List.take_set, List.map_set]
  rfl
theorem ar_anchor (L : List ByteArray) (a n : Nat) (s : ByteArray) : ar (L.set a s) a n = ar L a n := by
  unfold ar
  rw [List.drop_set, if_pos (by omega)]
theorem ar_secs (D : SD) (a n : Nat) : (lists (secs D a n)).drop 1 = ar D.seen a n := by
  unfold secs ar lists
  rw [← List.map_drop, List.drop_take, List.drop_drop]
theorem getD_at {L : List ByteArray} {k : Nat} (h : k < L.length) : L[k]? = some (L.getD k ⟨#[]⟩) := by
  rw [List.getElem?_eq_getElem h]
  simp [List.getD, List.getElem?_eq_getElem h]
theorem getD_set_same {L : List ByteArray} {k : Nat} (h : k < L.length) (s : ByteArray) : (L.set k s).getD k ⟨#[]⟩ = s := by
  simp [List.getD, List.getElem?_set_self h]
theorem getD_set_other (L : List ByteArray) {k j : Nat} (h : j ≠ k) (s : ByteArray) : (L.set k s).getD j ⟨#[]⟩ = L.getD j ⟨#[]⟩ := by
  simp [List.getD, List.getElem?_set_ne (Ne.symm h)]
theorem pad_bl (t : ByteArray) : bl (pad t) = padB (bl t) := by
  unfold bl pad padB
  rw [app_list, size_list]
  rfl
theorem pad_ba (l : By) : bl (pad (ba l)) = padB l := by rw [pad_bl]; unfold bl; rw [ba_list]
theorem ba_bl (s : ByteArray) : ba (bl s) = s := ba_back s
theorem pad_eq (l : By) : pad (ba l) = ba (padB l) := by rw [← pad_ba, ba_bl]

/-! ### The anchor -/
theorem anchor_bl (E : Nat) : bl (anchorB (E : Int)) = 3 :: (Wl.intB (E : Int) ++ (PFold.Fo.four (PFold.Fo.sum (Wl.intB (E : Int))) ++ List.replicate (64 - (3 :: Wl.sumF (Wl.intB (E : Int))).length) 0)) := by
  unfold anchorB
  rw [pad_ba]
  unfold padB Wl.sumF
  simp
theorem getA_anchor (E : Nat) (h : E ≤ 1000000) : getA (anchorB (E : Int)) = ((E : Int), true) := by
  have e0 := anchor_bl E
  have e1 : PCode.Nb.getI ((anchorB (E : Int)).data.toList.drop 1) = ((E : Int), (Wl.intB (E : Int)).length, 0) := by
    show PCode.Nb.getI ((bl (anchorB (E : Int))).drop 1) = _
    rw [e0, List.drop_succ_cons, List.drop_zero]
    exact Wl.getI_int _ (by unfold Wl.I64; omega) _
  have e2 : anchorB (E : Int) ≠ zeros 64 := fun e => by
    have e3 := congrArg (fun s => (bl s).head?) e
    simp only [e0] at e3
    revert e3
    show some (3 : UInt8) = some 0 → False
    decide
  unfold getA
  rw [if_neg e2, e1]
  simp only
  rw [if_pos ⟨trivial, by omega, by omega⟩]
  simp
theorem anchor_size (E : Nat) (h : E ≤ 1000001) : (anchorB (E : Int)).size = 64 := by
  unfold anchorB
  refine pad_size _ ?_
  rw [ba_size, List.length_cons, sumF_len]
  have := (Wl.intB_len (E : Int) (by unfold Wl.I64; omega)).2
  omega

/-! ### Writes that may be lost -/
def mkL : Nat → List By → List (Nat × ByteArray)
  | _, [] => []
  | b, x :: N => (b, ba x) :: mkL (b + 1) N
theorem mkL_app (b : Nat) (N M : List By) : mkL b (N ++ M) = mkL b N ++ mkL (b + N.length) M := by
  induction N generalizing b with
  | nil => rfl
  | cons x N ih => rw [List.cons_append, mkL, mkL, ih, List.cons_append, List.length_cons, show b + 1 + N.length = b + (N.length + 1) by omega]
theorem mkL_at (b : Nat) (N : List By) (j : Nat) : (mkL b N)[j]? = N[j]?.map fun x => (b + j, ba x) := by
  induction N generalizing b j with
  | nil => rfl
  | cons x N ih =>
    cases j with
    | zero => rfl
    | succ j => rw [mkL, List.getElem?_cons_succ, ih, List.getElem?_cons_succ, show b + 1 + j = b + (j + 1) by omega]
theorem mkL_len (b : Nat) (N : List By) : (mkL b N).length = N.length := by
  induction N generalizing b with
  | nil => rfl
  | cons x N ih => rw [mkL, List.length_cons, ih, List.length_cons]

/-- Behind a crash each sector is as it was safe, or as it was written since. -/
theorem after_at (L : List (Nat × ByteArray)) (K : List Bool) (S : List ByteArray) (q : Nat) (hq : q < S.length) : ∀ i, (after L K S i)[q]? = S[q]? ∨ ∃ j x, j < i ∧ L[j]? = some x ∧ x.1 = q ∧ (after L K S i)[q]? = some x.2 := by
  intro i
  induction i with
  | zero => exact .inl rfl
  | succ i ih =>
    have old : (∃ j x, j < i ∧ L[j]? = some x ∧ x.1 = q ∧ (after L K S i)[q]? = some x.2) → ∃ j x, j < i + 1 ∧ L[j]? = some x ∧ x.1 = q ∧ (after L K S i)[q]? = some x.2 := fun ⟨j, x, h1, h2⟩ => ⟨j, x, by omega, h2⟩
    cases hL : L[i]? with
    | none =>
      have e : after L K S (i + 1) = after L K S i := by rw [after, hL]
      rw [e]
      exact ih.imp id old
    | some x =>
      rw [after_next L K S i x hL]
      split
      · by_cases hx : x.1 = q
        · refine .inr ⟨i, x, by omega, hL, hx, ?_⟩
          rw [hx, List.getElem?_set_self (by rw [after_len]; exact hq)]
        · rw [List.getElem?_set_ne hx]
          exact ih.imp id old
      · exact ih.imp id old

/-! ### A log in use -/
structure BaseN (D : SD) (a n E : Nat) (R0 : List Rec) (m0 N : List By) : Prop where
  ok : D.ok
  n2 : 2 ≤ n
  fit : a + n ≤ D.n
  E1 : 1 ≤ E
  E2 : E ≤ 1000000
  ancS : D.safe.getD a ⟨#[]⟩ = anchorB (E : Int)
  ancQ : D.seen.getD a ⟨#[]⟩ = anchorB (E : Int)
  chain : Chain (E : Int) 0 0 (ar D.safe a n) R0 m0
  stop : ∀ r, getRec m0 ((R0.length : Nat) : Int) = some r → r.epoch < lastEp 0 R0
  old : ∀ s ∈ m0, ep s < (E : Int)
  low : ∀ s ∈ ar D.safe a n, ep s ≤ (E : Int)
  room : N.length ≤ m0.length
  loose : D.loose = mkL (a + 1 + sizes R0) N
  seen : ar D.seen a n = (ar D.safe a n).take (sizes R0) ++ (N ++ m0.drop N.length)
  eps : ∀ s ∈ N, ep s = (E : Int)

theorem burn_same (D : SD) : D.burn.safe = D.safe ∧ D.burn.seen = D.seen ∧ D.burn.loose = D.loose := by unfold SD.burn; split <;> exact ⟨rfl, rfl, rfl⟩
theorem I64_nat {E : Nat} (h : E ≤ 1000001) : Wl.I64 (E : Int) := by unfold Wl.I64; omega

section
variable {D : SD} {a n E : Nat} {R0 : List Rec} {m0 N : List By} (h : BaseN D a n E R0 m0 N)
include h
theorem BaseN.lens : (ar D.safe a n).length = n - 1 ∧ (ar D.seen a n).length = n - 1 ∧ sizes R0 + m0.length = n - 1 ∧ m0 = (ar D.safe a n).drop (sizes R0) := by
  have h1 : (ar D.safe a n).length = n - 1 := ar_len _ _ _ (by rw [h.ok.len]; exact h.fit)
  have h2 : (ar D.seen a n).length = n - 1 := ar_len _ _ _ h.fit
  obtain ⟨c1, c2, _⟩ := h.chain.drop
  refine ⟨h1, h2, ?_, c2⟩
  rw [c2, List.length_drop, h1]
  omega
/-- The next sector is written. -/
theorem BaseN.write (hd : D.down = false) (x : By) (hx : x.length ≤ 64) (he : ep (padB x) = (E : Int)) (hroom : N.length < m0.length) :
    (D.write (((a + 1 + sizes R0 + N.length : Nat)) : Int) (ba x)).1 = 0 ∧ BaseN (D.write (((a + 1 + sizes R0 + N.length : Nat)) : Int) (ba x)).2 a n E R0 m0 (N ++ [padB x]) := by
  obtain ⟨l1, l2, l3, l4⟩ := h.lens
  have hfit := h.fit
  have hin : a + 1 + sizes R0 + N.length < D.n := by omega
  have ew : D.write (((a + 1 + sizes R0 + N.length : Nat)) : Int) (ba x) = (0, { D.burn with seen := D.burn.seen.set (a + 1 + sizes R0 + N.length) (pad (ba x)), loose := D.burn.loose ++ [(a + 1 + sizes R0 + N.length, pad (ba x))] }) := by
    unfold SD.write SD.has
    rw [if_neg (by simp; omega), if_neg (by rw [ba_size]; omega), hd, if_neg (by simp), Int.toNat_natCast]
  rw [ew]
  obtain ⟨b1, b2, b3⟩ := burn_same D
  have hps : (pad (ba x)).size = 64 := pad_size _ (by rw [ba_size]; exact hx)
  have hok := burn_ok h.ok hd
  refine ⟨rfl, ⟨⟨?_, ?_, ?_, ?_, ?_, hok.left0, hok.leftM⟩, h.n2, ?_, h.E1, h.E2, ?_, ?_, ?_, h.stop, h.old, ?_, ?_, ?_, ?_, ?_⟩⟩
  · show D.burn.safe.length = (D.burn.seen.set _ _).length
    rw [List.length_set]
    exact hok.len
  · show (D.burn.seen.set _ _).length ≤ 256
    rw [List.length_set]
    exact hok.small
  · exact hok.safe64
  · intro t ht
    rcases List.mem_or_eq_of_mem_set ht with e | e
    · exact hok.seen64 t e
    · rw [e]; exact hps
  · intro y hy
    have hn : SD.n { D.burn with seen := D.burn.seen.set (a + 1 + sizes R0 + N.length) (pad (ba x)), loose := D.burn.loose ++ [(a + 1 + sizes R0 + N.length, pad (ba x))] } = D.burn.n := List.length_set
    rw [hn]
    rcases List.mem_append.1 hy with e | e
    · exact hok.loose64 y e
    · rw [List.mem_singleton.1 e]
      refine ⟨?_, hps⟩
      show a + 1 + sizes R0 + N.length < D.burn.seen.length
      rw [b2]; exact hin
  · show a + n ≤ (D.burn.seen.set _ _).length
    rw [List.length_set, b2]; exact h.fit
  · show D.burn.safe.getD a ⟨#[]⟩ = _
    rw [b1]; exact h.ancS
  · show (D.burn.seen.set _ _).getD a ⟨#[]⟩ = _
    rw [getD_set_other _ (by omega), b2]; exact h.ancQ
  · show Chain (E : Int) 0 0 (ar D.burn.safe a n) R0 m0
    rw [b1]; exact h.chain
  · show ∀ s ∈ ar D.burn.safe a n, _
    rw [b1]; exact h.low
  · rw [List.length_append]; simp; omega
  · show D.burn.loose ++ _ = _
    rw [b3, h.loose, mkL_app, pad_eq]
    rfl
  · show ar (D.burn.seen.set _ _) a n = (ar D.burn.safe a n).take _ ++ _
    rw [b1, b2, show a + 1 + sizes R0 + N.length = a + 1 + (sizes R0 + N.length) by omega, ar_set, h.seen, pad_ba]
    have e1 : ((ar D.safe a n).take (sizes R0)).length = sizes R0 := by rw [List.length_take]; omega
    rw [List.set_append_right _ _ (by omega), e1, Nat.add_sub_cancel_left, List.set_append_right _ _ (by omega), Nat.sub_self]
    have e2 : m0.drop N.length = m0[N.length] :: m0.drop (N.length + 1) := List.drop_eq_getElem_cons hroom
    rw [e2, List.set_cons_zero, List.length_append, List.append_assoc]
    rfl
  · intro s hs
    rcases List.mem_append.1 hs with e | e
    · exact h.eps s e
    · rw [List.mem_singleton.1 e]; exact he
end

end Go.Proofs.Ythfpinjegfgeiaa

/- A log on a disk, as plain lists: flush, raise, crash; what may be told behind a crash. No program in it. -/
namespace Go.Proofs.Ythfpinjegfgeiaa
open Go
set_option maxRecDepth 100000
open Wl (By Rec Chain Ends lastEp sizes getRec ep news recs Partial Mixed padB secsOf)

theorem rec_old {m : List By} {E : Int} (h : ∀ s ∈ m, ep s < E) {k : Int} {r : Rec} (hr : getRec m k = some r) : r.epoch < E := by
  obtain ⟨q1, _, q3, _⟩ := Wl.rec_local hr
  obtain ⟨s, a, b⟩ := q3 0 (by omega)
  rw [← b]
  exact h s (List.mem_of_getElem? a)
theorem secs_pos (E c : Int) (t : By) : 1 ≤ (secsOf E c t).length := by
  obtain ⟨f, _, h⟩ := Wl.secs_cons E c t
  rw [h]; simp
theorem news_len (E : Int) (T : List By) : ∀ c, T.length ≤ (news E c T).length := by
  induction T with
  | nil => intro c; simp
  | cons t T ih =>
    intro c
    have := ih (c + 1)
    have := secs_pos E c t
    rw [news, List.length_append, List.length_map, List.length_cons]
    omega
theorem cut_64 (h2 : By) (l2 : h2.length ≤ 64) : ∀ (f : Nat) (h1 r : By), h1.length ≤ 64 → ∀ x ∈ Wl.cut h2 h1 f r, x.length ≤ 64 := by
  intro f
  induction f with
  | zero => intro h1 r _ x hx; cases hx
  | succ f ih =>
    intro h1 r l1 x hx
    rw [Wl.cut] at hx
    split at hx
    · cases hx
    · rcases List.mem_cons.1 hx with rfl | hx
      · rw [List.length_append, List.length_take]; omega
      · exact ih h2 _ l2 x hx
theorem secs_le {E c : Int} (hE : Wl.I64 E) (hc : Wl.I64 c) (t : By) : ∀ x ∈ secsOf E c t, x.length ≤ 64 :=
  cut_64 _ (by have := Wl.head_len 2 E c hE hc; omega) _ _ _ (by have := Wl.head_len 1 E c hE hc; omega)

/-- All of the new ones are told. -/
theorem BaseN.told {D : SD} {a n E : Nat} {R0 : List Rec} {m0 : List By} {T : List By} (h : BaseN D a n E R0 m0 (news E R0.length T)) (hT : ∀ t ∈ T, t.length ≤ 300) :
    Chain (E : Int) 0 0 (ar D.seen a n) (R0 ++ recs E R0.length T) (m0.drop (news E R0.length T).length) ∧ (∀ s ∈ m0.drop (news E R0.length T).length, ep s < (E : Int)) ∧
    (∀ r, getRec (m0.drop (news E R0.length T).length) (((R0 ++ recs E R0.length T).length : Nat) : Int) = some r → r.epoch < lastEp 0 (R0 ++ recs E R0.length T)) ∧ (∀ s ∈ ar D.seen a n, ep s ≤ (E : Int)) ∧ R0.length + T.length ≤ 256 := by
  obtain ⟨l1, l2, l3, l4⟩ := h.lens
  have hE := I64_nat (show E ≤ 1000001 by have := h.E2; omega)
  have hfit := h.fit
  have hsm := h.ok.small
  have hR := h.chain.drop.2.2
  have hroom := h.room
  have hTl := news_len (E : Int) T R0.length
  have hlast := h.chain.last_le (by omega)
  have c1 := h.chain.behind (news E R0.length T ++ m0.drop (news E R0.length T).length)
  have c2 := Wl.all_new hE (Int.le_refl _) T R0.length (lastEp 0 R0) (m0.drop (news E R0.length T).length) (by omega) hT hlast.2
  have hold : ∀ s ∈ m0.drop (news E R0.length T).length, ep s < (E : Int) := fun s hs => h.old s (List.mem_of_mem_drop hs)
  refine ⟨?_, hold, ?_, ?_, by omega⟩
  · rw [h.seen]
    exact c1.trans (by rw [Nat.zero_add]; exact c2)
  · intro r hr
    rw [Wl.lastEp_app, Wl.recs_last]
    split
    · rename_i hnil
      subst hnil
      simp only [news, recs, List.length_nil, List.drop_zero, List.append_nil] at hr
      exact h.stop r hr
    · exact rec_old hold hr
  · intro s hs
    rw [h.seen] at hs
    rcases List.mem_append.1 hs with e | e
    · exact h.low s (List.mem_of_mem_take e)
    · rcases List.mem_append.1 e with e | e
      · exact Int.le_of_eq (h.eps s e)
      · exact Int.le_of_lt (hold s e)

theorem flush_up {D : SD} (hd : D.down = false) : D.flush = (0, { D.burn with safe := D.burn.seen, loose := [] }) := by unfold SD.flush; rw [hd]; rfl
theorem flush_down {D : SD} (hd : D.down = true) : D.flush = (13, D) := by unfold SD.flush; rw [hd]; rfl

/-- A flush: all is safe. -/
theorem BaseN.flush {D : SD} {a n E : Nat} {R0 : List Rec} {m0 : List By} {T : List By} (h : BaseN D a n E R0 m0 (news E R0.length T)) (hT : ∀ t ∈ T, t.length ≤ 300) (hd : D.down = false) :
    BaseN D.flush.2 a n E (R0 ++ recs E R0.length T) (m0.drop (news E R0.length T).length) [] := by
  obtain ⟨t1, t2, t3, t4, _⟩ := h.told hT
  rw [flush_up hd]
  obtain ⟨b1, b2, b3⟩ := burn_same D
  have hok := burn_ok h.ok hd
  have hd2 := t1.drop
  refine ⟨⟨rfl, hok.small, hok.seen64, hok.seen64, by simp, hok.left0, hok.leftM⟩, h.n2, ?_, h.E1, h.E2, ?_, ?_, ?_, t3, t2, ?_, Nat.zero_le _, rfl, ?_, by simp⟩
  · show a + n ≤ D.burn.seen.length
    rw [b2]; exact h.fit
  · show D.burn.seen.getD a ⟨#[]⟩ = _
    rw [b2]; exact h.ancQ
  · show D.burn.seen.getD a ⟨#[]⟩ = _
    rw [b2]; exact h.ancQ
  · show Chain (E : Int) 0 0 (ar D.burn.seen a n) _ _
    rw [b2]; exact t1
  · show ∀ s ∈ ar D.burn.seen a n, _
    rw [b2]; exact t4
  · show ar D.burn.seen a n = (ar D.burn.seen a n).take _ ++ ([] ++ (m0.drop (news E R0.length T).length).drop 0)
    rw [List.nil_append, List.drop_zero, hd2.2.1, b2, List.take_append_drop]

/-! ### What a crash may leave -/
structure Fallen (D : SD) (a n : Nat) (Q : List By → Prop) : Prop where
  ok : D.ok
  n2 : 2 ≤ n
  fit : a + n ≤ D.n
  up : D.fused = false
  none : D.loose = []
  same : D.safe = D.seen
  log : ∃ E R m, E ≤ 1000000 ∧ getA (D.seen.getD a ⟨#[]⟩) = (((E : Nat) : Int), true) ∧ Chain ((E : Nat) : Int) 0 0 (ar D.seen a n) R m ∧ (∀ r, getRec m ((R.length : Nat) : Int) = some r → r.epoch < lastEp 0 R) ∧ (∀ s ∈ ar D.seen a n, ep s ≤ ((E : Nat) : Int)) ∧ Q (R.map (·.text))

theorem Fallen.mono {D : SD} {a n : Nat} {Q Q' : List By → Prop} (h : Fallen D a n Q) (hq : ∀ l, Q l → Q' l) : Fallen D a n Q' := by
  obtain ⟨E, R, m, h1, h2, h3, h4, h5, h6⟩ := h.log
  exact ⟨h.ok, h.n2, h.fit, h.up, h.none, h.same, E, R, m, h1, h2, h3, h4, h5, hq _ h6⟩

/-- A disk with Writes that may be lost: those of new records, and perhaps the next anchor's. -/
structure DownN (D : SD) (a n E : Nat) (R0 : List Rec) (m0 N : List By) (X : List (Nat × ByteArray)) : Prop where
  ok : D.ok
  n2 : 2 ≤ n
  fit : a + n ≤ D.n
  E2 : E ≤ 1000000
  ancS : D.safe.getD a ⟨#[]⟩ = anchorB (E : Int)
  chain : Chain (E : Int) 0 0 (ar D.safe a n) R0 m0
  stop : ∀ r, getRec m0 ((R0.length : Nat) : Int) = some r → r.epoch < lastEp 0 R0
  old : ∀ s ∈ m0, ep s < (E : Int)
  low : ∀ s ∈ ar D.safe a n, ep s ≤ (E : Int)
  room : N.length ≤ m0.length
  loose : D.loose = mkL (a + 1 + sizes R0) N ++ X
  more : X = [] ∨ (X = [(a, anchorB ((E + 1 : Nat) : Int))] ∧ E + 1 ≤ 1000000)
  eps : ∀ s ∈ N, ep s = (E : Int)
theorem BaseN.down {D : SD} {a n E : Nat} {R0 : List Rec} {m0 N : List By} (h : BaseN D a n E R0 m0 N) : DownN D a n E R0 m0 N [] :=
  ⟨h.ok, h.n2, h.fit, h.E2, h.ancS, h.chain, h.stop, h.old, h.low, h.room, by rw [List.append_nil]; exact h.loose, .inl rfl, h.eps⟩

theorem crash_ok {D : SD} (h : D.ok) (K : List Bool) : (D.crash K).ok ∧ (D.crash K).n = D.n := by
  have hl : (after D.loose K D.safe D.loose.length).length = D.n := by rw [after_len]; exact h.len
  have h64 : ∀ i, ∀ t ∈ after D.loose K D.safe i, t.size = 64 := by
    intro i
    induction i with
    | zero => exact h.safe64
    | succ i ih =>
      intro t ht
      cases hL : D.loose[i]? with
      | none => rw [after, hL] at ht; exact ih t ht
      | some x =>
        rw [after_next D.loose K D.safe i x hL] at ht
        split at ht
        · rcases List.mem_or_eq_of_mem_set ht with e | e
          · exact ih t e
          · rw [e]; exact (h.loose64 x (List.mem_of_getElem? hL)).2
        · exact ih t ht
  refine ⟨⟨rfl, ?_, h64 _, h64 _, ?_, ?_, ?_⟩, hl⟩
  · show (after D.loose K D.safe D.loose.length).length ≤ 256
    rw [hl]; exact h.small
  · intro x hx; cases hx
  · show (0 : Int) ≤ 0; omega
  · show (0 : Int) ≤ _; omega

theorem mkL_app_at {b : Nat} {N : List By} {X : List (Nat × ByteArray)} {j : Nat} {x : Nat × ByteArray} (h : (mkL b N ++ X)[j]? = some x) : (∃ s, N[j]? = some s ∧ x = (b + j, ba s)) ∨ x ∈ X := by
  by_cases hj : j < (mkL b N).length
  · rw [List.getElem?_append_left hj, mkL_at] at h
    cases hN : N[j]? with
    | none => rw [hN] at h; cases h
    | some s =>
      rw [hN] at h
      simp only [Option.map_some, Option.some.injEq] at h
      exact .inl ⟨s, rfl, h.symm⟩
  · rw [List.getElem?_append_right (by omega)] at h
    exact .inr (List.mem_of_getElem? h)

/-- GRAY: whatever is lost, what is told is a beginning. -/
theorem DownN.crash {D : SD} {a n E : Nat} {R0 : List Rec} {m0 : List By} {T P : List By} {X : List (Nat × ByteArray)} (h : DownN D a n E R0 m0 (news E R0.length T ++ P) X) (hT : ∀ t ∈ T, t.length ≤ 300) (hP : Partial E (R0.length + T.length) P) (K : List Bool) :
    Fallen (D.crash K) a n (fun l => ∃ i, i ≤ T.length ∧ l = R0.map (·.text) ++ T.take i) := by
  obtain ⟨cok, cn⟩ := crash_ok h.ok K
  have hsl : D.safe.length = D.n := h.ok.len
  have hfit := h.fit
  have hn2 := h.n2
  have hsm := h.ok.small
  have hE := I64_nat (show E ≤ 1000001 by have := h.E2; omega)
  obtain ⟨d1, d2, d3⟩ := h.chain.drop
  have l1 : (ar D.safe a n).length = n - 1 := ar_len _ _ _ (by rw [hsl]; exact h.fit)
  have hroom := h.room
  obtain ⟨S', hS'⟩ : ∃ S', S' = after D.loose K D.safe D.loose.length := ⟨_, rfl⟩
  have hS'l : S'.length = D.n := by rw [hS', after_len]; exact h.ok.len
  have l2 : (ar S' a n).length = n - 1 := ar_len _ _ _ (by rw [hS'l]; exact h.fit)
  -- each sector of the log
  have hsec : ∀ k, k < n - 1 → ∀ s, (ar S' a n)[k]? = some s → (ar D.safe a n)[k]? = some s ∨ ∃ j, k = sizes R0 + j ∧ (news E R0.length T ++ P)[j]? = some s := by
    intro k hk s hs
    rw [ar_at, if_pos hk] at hs ⊢
    rcases after_at D.loose K D.safe (a + 1 + k) (by omega) D.loose.length with e | ⟨j, x, _, hx, hx1, e⟩
    · rw [← hS'] at e
      rw [e] at hs
      exact .inl hs
    · rw [← hS'] at e
      rw [e] at hs
      simp only [Option.map_some, Option.some.injEq] at hs
      rw [h.loose] at hx
      rcases mkL_app_at hx with ⟨s', hN, rfl⟩ | hX
      · refine .inr ⟨j, by simp only at hx1; omega, ?_⟩
        rw [hN, ← hs]
        simp only [bl, ba_list]
      · rcases h.more with rfl | ⟨rfl, _⟩
        · cases hX
        · rw [List.mem_singleton.1 hX] at hx1
          simp only at hx1
          omega
  have htake : (ar S' a n).take (sizes R0) = (ar D.safe a n).take (sizes R0) := by
    apply Wl.take_eq_of
    intro k hk
    have hk1 : k < n - 1 := by omega
    obtain ⟨s, hs⟩ : ∃ s, (ar S' a n)[k]? = some s := ⟨_, List.getElem?_eq_getElem (by omega)⟩
    refine ⟨s, ?_, hs⟩
    rcases hsec k hk1 s hs with e | ⟨j, e, _⟩
    · exact e
    · omega
  have hmix : Mixed ((ar S' a n).drop (sizes R0)) m0 (news E R0.length T ++ P) := by
    refine ⟨by rw [List.length_drop, l2, d2, List.length_drop, l1], fun j s hs => ?_⟩
    rw [List.getElem?_drop] at hs
    have hk : sizes R0 + j < n - 1 := by
      have := (List.getElem?_eq_some_iff.1 hs).1
      omega
    rcases hsec _ hk s hs with e | ⟨j', e1, e2⟩
    · left
      rw [d2, List.getElem?_drop]
      exact e
    · right
      have : j' = j := by omega
      rw [← this]
      exact e2
  have hTl := news_len (E : Int) T R0.length
  rw [List.length_append] at hroom
  have hm0 : m0.length ≤ 256 := by rw [d2, List.length_drop, l1]; omega
  have hlow : ∀ s ∈ ar S' a n, ep s ≤ (E : Int) := by
    intro s hs
    obtain ⟨k, hk⟩ := List.getElem?_of_mem hs
    have hk1 : k < n - 1 := by have := (List.getElem?_eq_some_iff.1 hk).1; omega
    rcases hsec k hk1 s hk with e | ⟨j, _, e⟩
    · exact h.low s (List.mem_of_getElem? e)
    · exact Int.le_of_eq (h.eps s (List.mem_of_getElem? e))
  have hlast := h.chain.last_le (by omega)
  -- the anchor
  have hanc : ∃ E' : Nat, E ≤ E' ∧ E' ≤ 1000000 ∧ getA (S'.getD a ⟨#[]⟩) = ((E' : Int), true) := by
    rcases after_at D.loose K D.safe a (by omega) D.loose.length with e | ⟨j, x, _, hx, hx1, e⟩
    · refine ⟨E, Nat.le_refl _, h.E2, ?_⟩
      rw [← hS', getD_at (by omega), getD_at (by omega)] at e
      rw [Option.some.inj e, h.ancS]
      exact getA_anchor E h.E2
    · rw [h.loose] at hx
      rcases mkL_app_at hx with ⟨s', _, rfl⟩ | hX
      · simp only at hx1; omega
      · rcases h.more with rfl | ⟨rfl, hm⟩
        · cases hX
        · rw [List.mem_singleton.1 hX] at e
          refine ⟨E + 1, by omega, hm, ?_⟩
          rw [← hS', getD_at (by omega)] at e
          rw [Option.some.inj e]
          exact getA_anchor (E + 1) hm
  obtain ⟨E', hE1, hE2, hA⟩ := hanc
  obtain ⟨i, m, hi, hch, hst⟩ := Wl.mix hE (show (E : Int) ≤ (E' : Int) by omega) T P R0.length (lastEp 0 R0) m0 ((ar S' a n).drop (sizes R0)) (by omega) hT hP h.old hmix hlast.2 (.inl h.stop)
  have hc1 := (h.chain.up (show (E : Int) ≤ (E' : Int) by omega)).behind ((ar S' a n).drop (sizes R0))
  rw [← htake, List.take_append_drop] at hc1
  refine ⟨cok, h.n2, by rw [cn]; exact h.fit, rfl, rfl, rfl, E', R0 ++ recs E R0.length (T.take i), m, hE2, ?_, ?_, ?_, ?_, i, hi, ?_⟩
  · show getA ((after D.loose K D.safe D.loose.length).getD a ⟨#[]⟩) = _
    rw [← hS']; exact hA
  · show Chain (E' : Int) 0 0 (ar (after D.loose K D.safe D.loose.length) a n) _ _
    rw [← hS']
    exact hc1.trans (by rw [Nat.zero_add]; exact hch)
  · intro r hr
    rw [Wl.lastEp_app]
    refine hst r ?_
    rw [List.length_append, Wl.recs_len, List.length_take, Nat.min_eq_left hi] at hr
    exact hr
  · show ∀ s ∈ ar (after D.loose K D.safe D.loose.length) a n, _
    rw [← hS']
    intro s hs
    have := hlow s hs
    omega
  · rw [List.map_append, Wl.recs_text]

end Go.Proofs.Ythfpinjegfgeiaa

/- A log on a disk, as plain lists: Append, Sync, Reset and Open behind a crash: what they leave, and what any crash then leaves. No program in it. -/
namespace Go.Proofs.Ythfpinjegfgeiaa
open Go
set_option maxRecDepth 100000
open Wl (By Rec Chain Ends lastEp sizes getRec ep news recs Partial Mixed padB secsOf)

theorem write_down {D : SD} {q : Nat} (hq : q < D.n) (s : ByteArray) (hs : s.size ≤ 64) (hd : D.down = true) : D.write (q : Int) s = (13, D) := by
  unfold SD.write SD.has
  rw [if_neg (by simp; omega), if_neg (by omega), if_pos hd]
theorem write_up {D : SD} {q : Nat} (hq : q < D.n) (s : ByteArray) (hs : s.size ≤ 64) (hd : D.down = false) : D.write (q : Int) s = (0, { D.burn with seen := D.burn.seen.set q (pad s), loose := D.burn.loose ++ [(q, pad s)] }) := by
  unfold SD.write SD.has
  rw [if_neg (by simp; omega), if_neg (by omega), hd, if_neg (by simp), Int.toNat_natCast]
theorem pad_full {s : ByteArray} (h : s.size = 64) : pad s = s := by
  apply bytes_eq
  unfold pad
  rw [app_list, h]
  show s.data.toList ++ [] = _
  rw [List.append_nil]

/-! ### All sectors of a record -/
def LG.off (G : LG) : LG := { G with sound := false }
theorem heed13 (G : LG) : G.heed 13 = G.off := by unfold LG.heed; rw [if_neg (by decide)]; rfl

theorem burn_fused (D : SD) : D.burn.fused = D.fused := by unfold SD.burn; split <;> rfl
theorem write_fused (D : SD) (q : Int) (s : ByteArray) : (D.write q s).2.fused = D.fused := by
  unfold SD.write
  repeat' split
  all_goals first | rfl | exact burn_fused D
theorem flush_fused (D : SD) : D.flush.2.fused = D.fused := by
  unfold SD.flush
  split
  · rfl
  · exact burn_fused D
theorem down_fused {D : SD} (h : D.down = true) : D.fused = true := by
  unfold SD.down at h
  simp at h
  exact h.1

theorem all_spec (G : LG) {E : Nat} {R0 : List Rec} {m0 : List By} : ∀ (rest : List By) (D : SD) (N : List By) (q : Nat), BaseN D G.frm G.n E R0 m0 N → (∀ x ∈ rest, x.length ≤ 64 ∧ ep (padB x) = (E : Int)) → N.length + rest.length ≤ m0.length → q = 1 + sizes R0 + N.length →
    (wlAll D G q (rest.map ba)).2.1.fused = D.fused ∧
    (((wlAll D G q (rest.map ba)).1 = 0 ∧ (wlAll D G q (rest.map ba)).2.2 = G ∧ BaseN (wlAll D G q (rest.map ba)).2.1 G.frm G.n E R0 m0 (N ++ rest.map padB)) ∨
    ((wlAll D G q (rest.map ba)).1 = 13 ∧ (wlAll D G q (rest.map ba)).2.2 = G.off ∧ D.fused = true ∧ ∃ k, k < rest.length ∧ BaseN (wlAll D G q (rest.map ba)).2.1 G.frm G.n E R0 m0 (N ++ (rest.take k).map padB))) := by
  intro rest
  induction rest with
  | nil => intro D N q h _ _ _; exact ⟨rfl, .inl ⟨rfl, rfl, by simpa [wlAll] using h⟩⟩
  | cons x rest ih =>
    intro D N q h hx hr hq
    obtain ⟨x1, x2⟩ := hx x (by simp)
    simp only [List.length_cons] at hr
    have e0 : ((G.frm : Int) + (q : Int)) = ((G.frm + 1 + sizes R0 + N.length : Nat) : Int) := by omega
    rw [List.map_cons, wlAll]
    have hin : G.frm + 1 + sizes R0 + N.length < D.n := by have := h.lens.2.2.1; have := h.fit; omega
    by_cases hd : D.down = true
    · have ew : wlWrite D G q (ba x) = (13, D, G.off) := by
        unfold wlWrite
        rw [e0, write_down hin _ (by rw [ba_size]; exact x1) hd, heed13]
      rw [ew, if_neg (by simp)]
      exact ⟨rfl, .inr ⟨rfl, rfl, down_fused hd, 0, by simp, by simpa using h⟩⟩
    · have hd' : D.down = false := by simpa using hd
      obtain ⟨w1, w2⟩ := h.write hd' x x1 x2 (by omega)
      have wf := write_fused D ((G.frm + 1 + sizes R0 + N.length : Nat) : Int) (ba x)
      have ew : wlWrite D G q (ba x) = (0, (D.write ((G.frm + 1 + sizes R0 + N.length : Nat) : Int) (ba x)).2, G) := by
        unfold wlWrite
        rw [e0, w1, heed_zero]
      rw [ew, if_pos rfl]
      simp only
      obtain ⟨f1, f2⟩ := ih _ (N ++ [padB x]) (q + 1) w2 (fun y hy => hx y (by simp [hy])) (by simp; omega) (by simp; omega)
      refine ⟨f1.trans wf, ?_⟩
      rcases f2 with ⟨a1, a2, a3⟩ | ⟨a1, a2, a5, k, a3, a4⟩
      · refine .inl ⟨a1, a2, ?_⟩
        rw [List.append_assoc] at a3
        exact a3
      · refine .inr ⟨a1, a2, wf ▸ a5, k + 1, by simp; omega, ?_⟩
        rw [List.append_assoc] at a4
        rw [List.take_succ_cons, List.map_cons]
        exact a4

/-! ### A log in use -/
structure GoodAt (D : SD) (G : LG) (R0 : List Rec) (m0 T : List By) : Prop where
  base : BaseN D G.frm G.n G.epoch R0 m0 (news G.epoch R0.length T)
  txt : ∀ t ∈ T, t.length ≤ 300
  cnt : G.count = R0.length + T.length
  use : G.used = 1 + sizes R0 + (news G.epoch R0.length T).length
  snd : G.sound = true
def Good (D : SD) (G : LG) (all : List By) (sf : Nat) : Prop := ∃ R0 m0 T, GoodAt D G R0 m0 T ∧ all = R0.map (·.text) ++ T ∧ sf ≤ R0.length
def Front (all : List By) (sf : Nat) (l : List By) : Prop := sf ≤ l.length ∧ l <+: all
def Falls (D : SD) (a n : Nat) (Q : List By → Prop) : Prop := ∀ K, Fallen (D.crash K) a n Q

theorem front_of {D : SD} {a n E : Nat} {R0 : List Rec} {m0 T P : List By} {X : List (Nat × ByteArray)} (h : DownN D a n E R0 m0 (news E R0.length T ++ P) X) (hT : ∀ t ∈ T, t.length ≤ 300) (hP : Partial E (R0.length + T.length) P) {sf : Nat} (hs : sf ≤ R0.length) :
    Falls D a n (Front (R0.map (·.text) ++ T) sf) := fun K => (h.crash hT hP K).mono (by
  rintro l ⟨i, hi, rfl⟩
  refine ⟨by rw [List.length_append, List.length_map]; omega, ?_⟩
  exact (List.prefix_append_right_inj _).2 (List.take_prefix i T))

theorem Good.falls {D : SD} {G : LG} {all : List By} {sf : Nat} (h : Good D G all sf) : Falls D G.frm G.n (Front all sf) := by
  obtain ⟨R0, m0, T, hg, rfl, hs⟩ := h
  exact front_of (P := []) (X := []) (by rw [List.append_nil]; exact hg.base.down) hg.txt (Wl.partial_nil _ _) hs

theorem I64_small {k : Nat} (h : k ≤ 1000001) : Wl.I64 (k : Int) := by unfold Wl.I64; omega

/-- Append to a log in use. -/
theorem Good.append {D : SD} {G : LG} {all : List By} {sf : Nat} (h : Good D G all sf) (t : ByteArray) :
    (wlAppend D G t).2.1.fused = D.fused ∧ (wlAppend D G t).2.2.frm = G.frm ∧ (wlAppend D G t).2.2.n = G.n ∧
    (((wlAppend D G t).1 = 0 ∧ Good (wlAppend D G t).2.1 (wlAppend D G t).2.2 (all ++ [bl t]) sf ∧ G.used < (wlAppend D G t).2.2.used) ∨
    (((wlAppend D G t).1 = 2 ∨ (wlAppend D G t).1 = 8) ∧ (wlAppend D G t).2 = (D, G)) ∨
    ((wlAppend D G t).1 = 13 ∧ (wlAppend D G t).2.2 = G.off ∧ D.fused = true ∧ Falls (wlAppend D G t).2.1 G.frm G.n (Front all sf))) := by
  obtain ⟨R0, m0, T, hg, rfl, hs⟩ := h
  have hb := hg.base
  have hsnd := hg.snd
  unfold wlAppend
  rw [if_neg (by rw [hsnd]; simp)]
  by_cases ht : 300 < t.size
  · rw [if_pos ht]
    exact ⟨rfl, rfl, rfl, .inr (.inl ⟨.inl rfl, rfl⟩)⟩
  · rw [if_neg ht]
    by_cases hf : G.n < G.used + (parts G.epoch G.count t).length
    · rw [if_pos hf]
      exact ⟨rfl, rfl, rfl, .inr (.inl ⟨.inr rfl, rfl⟩)⟩
    · rw [if_neg hf]
      have htl : (bl t).length ≤ 300 := by unfold bl; rw [size_list]; omega
      have hE2 := hb.E2
      have hE := I64_small (show G.epoch ≤ 1000001 by omega)
      obtain ⟨_, _, _, _, hsm⟩ := hb.told hg.txt
      have hc : (G.count : Int) = ((R0.length + T.length : Nat) : Int) := by rw [hg.cnt]
      have hcI : Wl.I64 (G.count : Int) := I64_small (by rw [hg.cnt]; omega)
      have hpl : (parts G.epoch G.count t).length = (secsOf (G.epoch : Int) (G.count : Int) (bl t)).length := by unfold parts bl; rw [List.length_map]
      have hpe : parts G.epoch G.count t = (secsOf (G.epoch : Int) (G.count : Int) (bl t)).map ba := rfl
      have hl := hb.lens.2.2.1
      have huse := hg.use
      have hn2 := hb.n2
      obtain ⟨f1, f2⟩ := all_spec G (secsOf (G.epoch : Int) (G.count : Int) (bl t)) D _ G.used hb (fun x hx => ⟨secs_le hE hcI _ x hx, Wl.secs_ep _ _ hE _ _ (List.mem_map_of_mem hx)⟩) (by omega) huse
      rw [← hpe] at f1 f2
      have enews : news (G.epoch : Int) R0.length (T ++ [bl t]) = news (G.epoch : Int) R0.length T ++ (secsOf (G.epoch : Int) (G.count : Int) (bl t)).map padB := by
        rw [Wl.news_app, news, news, List.append_nil, hc]
      have hpos := secs_pos (G.epoch : Int) (G.count : Int) (bl t)
      rcases f2 with ⟨a1, a2, a3⟩ | ⟨a1, a2, a5, k, a3, a4⟩
      · have em : wlMore (parts G.epoch G.count t).length (wlAll D G G.used (parts G.epoch G.count t)) = (0, (wlAll D G G.used (parts G.epoch G.count t)).2.1, { G with count := G.count + 1, used := G.used + (parts G.epoch G.count t).length }) := by
          unfold wlMore
          rw [if_pos a1, a2]
        rw [em]
        refine ⟨f1, rfl, rfl, .inl ⟨rfl, ⟨R0, m0, T ++ [bl t], ⟨?_, ?_, ?_, ?_, hsnd⟩, by rw [List.append_assoc], hs⟩, ?_⟩⟩
        · show BaseN _ G.frm G.n G.epoch R0 m0 (news (G.epoch : Int) R0.length (T ++ [bl t]))
          rw [enews]
          exact a3
        · intro x hx
          rcases List.mem_append.1 hx with e | e
          · exact hg.txt x e
          · rw [List.mem_singleton.1 e]; exact htl
        · show G.count + 1 = R0.length + (T ++ [bl t]).length
          rw [List.length_append, hg.cnt]
          rfl
        · show G.used + (parts G.epoch G.count t).length = 1 + sizes R0 + (news (G.epoch : Int) R0.length (T ++ [bl t])).length
          rw [enews, List.length_append, List.length_map, hpl]
          omega
        · show G.used < G.used + (parts G.epoch G.count t).length
          omega
      · have em : wlMore (parts G.epoch G.count t).length (wlAll D G G.used (parts G.epoch G.count t)) = wlAll D G G.used (parts G.epoch G.count t) := by
          unfold wlMore
          rw [if_neg (by rw [a1]; decide)]
        rw [em, a2]
        refine ⟨f1, rfl, rfl, .inr (.inr ⟨a1, rfl, a5, ?_⟩)⟩
        rw [List.map_take] at a4
        refine front_of a4.down hg.txt ⟨bl t, htl, k, ?_, ?_⟩ hs
        · rw [← hc]; exact a3
        · rw [← hc]

/-- Sync of a log in use. -/
theorem Good.sync {D : SD} {G : LG} {all : List By} {sf : Nat} (h : Good D G all sf) :
    ((wlSync D G).1 = 0 ∧ (wlSync D G).2.2 = G ∧ Good (wlSync D G).2.1 G all all.length) ∨ ((wlSync D G).1 = 13 ∧ (wlSync D G).2 = (D, G.off) ∧ D.fused = true) := by
  obtain ⟨R0, m0, T, hg, rfl, hs⟩ := h
  unfold wlSync
  rw [if_pos hg.snd]
  unfold wlFlush
  by_cases hd : D.down = true
  · rw [flush_down hd, heed13]
    exact .inr ⟨rfl, rfl, down_fused hd⟩
  · have hd' : D.down = false := by simpa using hd
    have hf := hg.base.flush hg.txt hd'
    have e0 : D.flush.1 = 0 := by rw [flush_up hd']
    refine .inl ⟨e0, by rw [e0, heed_zero], R0 ++ recs G.epoch R0.length T, _, [], ⟨hf, by simp, ?_, ?_, hg.snd⟩, ?_, ?_⟩
    · rw [List.length_append, Wl.recs_len, hg.cnt]; simp
    · rw [Wl.sizes_app, Wl.recs_sizes, hg.use]; simp [news]; omega
    · rw [List.map_append, Wl.recs_text, List.append_nil]
    · rw [List.length_append, List.length_append, List.length_map, Wl.recs_len]; omega

/-! ### To raise -/
structure Told (D : SD) (a n E : Nat) (R : List Rec) (m : List By) : Prop where
  ok : D.ok
  n2 : 2 ≤ n
  fit : a + n ≤ D.n
  chain : Chain (E : Int) 0 0 (ar D.seen a n) R m
  stop : ∀ r, getRec m ((R.length : Nat) : Int) = some r → r.epoch < lastEp 0 R
  low : ∀ s ∈ ar D.seen a n, ep s ≤ (E : Int)

/-- The anchor of the next epoch, written and safe. -/
theorem Told.raise {D : SD} {a n E : Nat} {R : List Rec} {m : List By} (h : Told D a n E R m) (hE : E + 1 ≤ 1000000) (hd : D.down = false) (hd1 : (D.write (a : Int) (anchorB ((E + 1 : Nat) : Int))).2.down = false) :
    (D.write (a : Int) (anchorB ((E + 1 : Nat) : Int))).1 = 0 ∧ BaseN (D.write (a : Int) (anchorB ((E + 1 : Nat) : Int))).2.flush.2 a n (E + 1) R m [] ∧ ∀ s ∈ ar (D.write (a : Int) (anchorB ((E + 1 : Nat) : Int))).2.flush.2.safe a n, ep s < ((E + 1 : Nat) : Int) := by
  have hfit := h.fit
  have hn2 := h.n2
  have h64 := anchor_size (E + 1) (by omega)
  rw [write_up (by omega) _ (by omega) hd] at hd1 ⊢
  rw [flush_up hd1]
  obtain ⟨b1, b2, b3⟩ := burn_same D
  have hok := burn_ok h.ok hd
  have hDl : D.seen.length = D.n := rfl
  obtain ⟨D1, hD1⟩ : ∃ D1 : SD, D1 = { D.burn with seen := D.burn.seen.set a (pad (anchorB ((E + 1 : Nat) : Int))), loose := D.burn.loose ++ [(a, pad (anchorB ((E + 1 : Nat) : Int)))] } := ⟨_, rfl⟩
  have q1 : D1.seen = D.seen.set a (anchorB ((E + 1 : Nat) : Int)) := by rw [hD1, pad_full h64]; show D.burn.seen.set _ _ = _; rw [b2]
  rw [← hD1] at hd1 ⊢
  obtain ⟨c1, c2, c3⟩ := burn_same D1
  have har : ar D1.burn.seen a n = ar D.seen a n := by rw [c2, q1, ar_anchor]
  have hanc : D1.burn.seen.getD a ⟨#[]⟩ = anchorB ((E + 1 : Nat) : Int) := by rw [c2, q1]; exact getD_set_same (by omega) _
  have hok1 : D1.ok := by
    rw [hD1]
    refine ⟨?_, ?_, hok.safe64, ?_, ?_, hok.left0, hok.leftM⟩
    · show D.burn.safe.length = (D.burn.seen.set _ _).length
      rw [List.length_set]; exact hok.len
    · show (D.burn.seen.set _ _).length ≤ 256
      rw [List.length_set]; exact hok.small
    · intro t ht
      rcases List.mem_or_eq_of_mem_set ht with e | e
      · exact hok.seen64 t e
      · rw [e, pad_full h64]; exact h64
    · intro y hy
      show y.1 < (D.burn.seen.set _ _).length ∧ _
      rw [List.length_set]
      rcases List.mem_append.1 hy with e | e
      · exact hok.loose64 y e
      · rw [List.mem_singleton.1 e, pad_full h64]
        refine ⟨?_, h64⟩
        show a < D.burn.seen.length
        rw [b2]; omega
  have hok2 := burn_ok hok1 hd1
  refine ⟨rfl, ⟨⟨rfl, hok2.small, hok2.seen64, hok2.seen64, by simp, hok2.left0, hok2.leftM⟩, h.n2, ?_, by omega, hE, hanc, hanc, ?_, h.stop, ?_, ?_, Nat.zero_le _, rfl, ?_, by simp⟩, ?_⟩
  · show a + n ≤ D1.burn.seen.length
    rw [c2, q1, List.length_set]; exact h.fit
  · show Chain ((E + 1 : Nat) : Int) 0 0 (ar D1.burn.seen a n) R m
    rw [har]
    exact h.chain.up (by omega)
  · intro s hs
    have := h.low s (by rw [h.chain.drop.2.1] at hs; exact List.mem_of_mem_drop hs)
    omega
  · show ∀ s ∈ ar D1.burn.seen a n, _
    rw [har]
    intro s hs
    have := h.low s hs
    omega
  · show ar D1.burn.seen a n = (ar D1.burn.seen a n).take _ ++ ([] ++ m.drop 0)
    rw [har, List.nil_append, List.drop_zero, h.chain.drop.2.1, List.take_append_drop]
  · show ∀ s ∈ ar D1.burn.seen a n, _
    rw [har]
    intro s hs
    have := h.low s hs
    omega

theorem BaseN.toTold {D : SD} {a n E : Nat} {R0 : List Rec} {m0 T : List By} (h : BaseN D a n E R0 m0 (news E R0.length T)) (hT : ∀ t ∈ T, t.length ≤ 300) : Told D a n E (R0 ++ recs E R0.length T) (m0.drop (news E R0.length T).length) := by
  obtain ⟨t1, t2, t3, t4, _⟩ := h.told hT
  exact ⟨h.ok, h.n2, h.fit, t1, t3, t4⟩

end Go.Proofs.Ythfpinjegfgeiaa

/- A log on a disk, as plain lists: Reset, Fuse, Open behind a crash. No program in it. -/
namespace Go.Proofs.Ythfpinjegfgeiaa
open Go
set_option maxRecDepth 100000
open Wl (By Rec Chain Ends lastEp sizes getRec ep news recs Partial Mixed padB secsOf)

theorem write_keeps {D : SD} (h : D.ok) {q : Nat} (hq : q < D.n) {s : ByteArray} (hs : s.size ≤ 64) (hd : D.down = false) :
    (D.write (q : Int) s).1 = 0 ∧ (D.write (q : Int) s).2.ok ∧ (D.write (q : Int) s).2.n = D.n ∧ (D.write (q : Int) s).2.safe = D.safe ∧ (D.write (q : Int) s).2.seen = D.seen.set q (pad s) ∧ (D.write (q : Int) s).2.loose = D.loose ++ [(q, pad s)] := by
  rw [write_up hq s hs hd]
  obtain ⟨b1, b2, b3⟩ := burn_same D
  have hok := burn_ok h hd
  have hps := pad_size s hs
  refine ⟨rfl, ⟨?_, ?_, hok.safe64, ?_, ?_, hok.left0, hok.leftM⟩, ?_, b1, ?_, ?_⟩
  · show D.burn.safe.length = (D.burn.seen.set _ _).length
    rw [List.length_set]; exact hok.len
  · show (D.burn.seen.set _ _).length ≤ 256
    rw [List.length_set]; exact hok.small
  · intro t ht
    rcases List.mem_or_eq_of_mem_set ht with e | e
    · exact hok.seen64 t e
    · rw [e]; exact hps
  · intro y hy
    show y.1 < (D.burn.seen.set _ _).length ∧ _
    rw [List.length_set]
    rcases List.mem_append.1 hy with e | e
    · exact hok.loose64 y e
    · rw [List.mem_singleton.1 e]
      refine ⟨?_, hps⟩
      show q < D.burn.seen.length
      rw [b2]; exact hq
  · show (D.burn.seen.set _ _).length = _
    rw [List.length_set, b2]; rfl
  · show D.burn.seen.set _ _ = _
    rw [b2]
  · show D.burn.loose ++ _ = _
    rw [b3]

/-! ### To raise, by cases -/
def anc1 (G : LG) : ByteArray := anchorB ((G.epoch + 1 : Nat) : Int)
theorem raise_full {D : SD} {G : LG} (h : G.epoch = 1000000) : wlRaise D G = (8, D, G) := by unfold wlRaise; rw [if_pos h]
theorem raise_down {D : SD} {G : LG} (hE : G.epoch < 1000000) (hq : G.frm < D.n) (hd : D.down = true) : wlRaise D G = (13, D, G.off) := by
  have h64 := anchor_size (G.epoch + 1) (by omega)
  have ew : wlWrite D G 0 (anc1 G) = (13, D, G.off) := by
    unfold wlWrite
    rw [show ((G.frm : Int) + ((0 : Nat) : Int)) = (G.frm : Int) by omega, write_down hq _ (by show (anchorB ((G.epoch + 1 : Nat) : Int)).size ≤ 64; omega) hd, heed13]
  unfold wlRaise wlSafe
  rw [if_neg (by omega), show anchorB ((G.epoch + 1 : Nat) : Int) = anc1 G from rfl, ew, if_neg (by simp)]
  unfold wlUp
  rw [if_neg (by simp)]
theorem raise_half {D : SD} {G : LG} (hE : G.epoch < 1000000) (hok : D.ok) (hq : G.frm < D.n) (hd : D.down = false) (hd1 : (D.write (G.frm : Int) (anc1 G)).2.down = true) : wlRaise D G = (13, (D.write (G.frm : Int) (anc1 G)).2, G.off) := by
  have h64 := anchor_size (G.epoch + 1) (by omega)
  have w0 := (write_keeps hok hq (s := anc1 G) (by show (anchorB ((G.epoch + 1 : Nat) : Int)).size ≤ 64; omega) hd).1
  have ew : wlWrite D G 0 (anc1 G) = (0, (D.write (G.frm : Int) (anc1 G)).2, G) := by
    unfold wlWrite
    rw [show ((G.frm : Int) + ((0 : Nat) : Int)) = (G.frm : Int) by omega, w0, heed_zero]
  unfold wlRaise wlSafe
  rw [if_neg (by omega), show anchorB ((G.epoch + 1 : Nat) : Int) = anc1 G from rfl, ew, if_pos rfl]
  unfold wlFlush wlUp
  simp only
  rw [flush_down hd1, heed13, if_neg (by simp)]
theorem raise_up {D : SD} {G : LG} (hE : G.epoch < 1000000) (hok : D.ok) (hq : G.frm < D.n) (hd : D.down = false) (hd1 : (D.write (G.frm : Int) (anc1 G)).2.down = false) : wlRaise D G = (0, (D.write (G.frm : Int) (anc1 G)).2.flush.2, { G with epoch := G.epoch + 1 }) := by
  have h64 := anchor_size (G.epoch + 1) (by omega)
  have w0 := (write_keeps hok hq (s := anc1 G) (by show (anchorB ((G.epoch + 1 : Nat) : Int)).size ≤ 64; omega) hd).1
  have ew : wlWrite D G 0 (anc1 G) = (0, (D.write (G.frm : Int) (anc1 G)).2, G) := by
    unfold wlWrite
    rw [show ((G.frm : Int) + ((0 : Nat) : Int)) = (G.frm : Int) by omega, w0, heed_zero]
  have f0 : (D.write (G.frm : Int) (anc1 G)).2.flush.1 = 0 := by rw [flush_up hd1]
  unfold wlRaise wlSafe
  rw [if_neg (by omega), show anchorB ((G.epoch + 1 : Nat) : Int) = anc1 G from rfl, ew, if_pos rfl]
  unfold wlFlush wlUp
  simp only
  rw [f0, heed_zero, if_pos rfl]

/-! ### Open behind a crash -/
theorem Fallen.open {D : SD} {a n : Nat} {Q : List By → Prop} (h : Fallen D a n Q) : ∃ E R m, E ≤ 1000000 ∧ getA (D.seen.getD a ⟨#[]⟩) = (((E : Nat) : Int), true) ∧ Chain ((E : Nat) : Int) 0 0 (ar D.seen a n) R m ∧ Wl.Ends ((E : Nat) : Int) (lastEp 0 R) R.length m ∧ Q (R.map (·.text)) ∧
    ((E = 1000000 ∧ wlRaise D (LG.made a n E R) = (8, D, LG.made a n E R)) ∨
      ((wlRaise D (LG.made a n E R)).1 = 0 ∧ (wlRaise D (LG.made a n E R)).2.2 = { LG.made a n E R with epoch := E + 1 } ∧ Good (wlRaise D (LG.made a n E R)).2.1 (wlRaise D (LG.made a n E R)).2.2 (R.map (·.text)) R.length ∧ (wlRaise D (LG.made a n E R)).2.1.fused = false ∧ (wlRaise D (LG.made a n E R)).2.1.loose = [])) := by
  obtain ⟨E, R, m, h1, h2, h3, h4, h5, h6⟩ := h.log
  refine ⟨E, R, m, h1, h2, h3, fun r hr => .inl (h4 r hr), h6, ?_⟩
  by_cases hE : E = 1000000
  · exact .inl ⟨hE, raise_full hE⟩
  · have hfit := h.fit
    have hn2 := h.n2
    have hd : D.down = false := by unfold SD.down; rw [h.up]; rfl
    have hd1 : (D.write (a : Int) (anchorB ((E + 1 : Nat) : Int))).2.down = false := by unfold SD.down; rw [write_fused, h.up]; rfl
    have eq := raise_up (D := D) (G := LG.made a n E R) (by show E < 1000000; omega) h.ok (by show a < D.n; omega) hd hd1
    have T : Told D a n E R m := ⟨h.ok, h.n2, h.fit, h3, h4, h5⟩
    obtain ⟨_, t2, _⟩ := T.raise (by omega) hd hd1
    have hd1' : (D.write ((LG.made a n E R).frm : Int) (anc1 (LG.made a n E R))).2.down = false := hd1
    rw [eq]
    refine .inr ⟨rfl, rfl, ⟨R, m, [], ⟨t2, by simp, by show R.length = R.length + 0; rfl, by show 1 + sizes R = 1 + sizes R + 0; rfl, rfl⟩, by simp, Nat.le_refl _⟩, ?_, ?_⟩
    · show (D.write ((LG.made a n E R).frm : Int) (anc1 (LG.made a n E R))).2.flush.2.fused = false
      rw [flush_fused, write_fused]; exact h.up
    · show (D.write ((LG.made a n E R).frm : Int) (anc1 (LG.made a n E R))).2.flush.2.loose = []
      rw [flush_up hd1']

/-- A new disk is one that fell. -/
theorem fresh_fallen (k a n : Nat) (hk : k ≤ 256) (h2 : 2 ≤ n) (hf : a + n ≤ k) : Fallen (SD.fresh k) a n (fun l => l = []) := by
  have hn : (SD.fresh k).n = k := by simp [SD.fresh, SD.n]
  have hz : ∀ s ∈ ar (SD.fresh k).seen a n, s = List.replicate 64 0 := by
    intro s hs
    unfold ar lists at hs
    obtain ⟨x, hx, rfl⟩ := List.mem_map.1 hs
    have hx2 : x ∈ List.replicate k (zeros 64) := List.mem_of_mem_drop (List.mem_of_mem_take hx)
    rw [(List.mem_replicate.1 hx2).2]
    rfl
  have hz0 : ∀ s ∈ ar (SD.fresh k).seen a n, Wl.getHd s = none := fun s hs => by
    rw [hz s hs]; rfl
  have hzp : ∀ s ∈ ar (SD.fresh k).seen a n, ep s = 0 := fun s hs => by
    rw [hz s hs]; rfl
  refine ⟨fresh_ok k hk, h2, by rw [hn]; exact hf, rfl, rfl, rfl, 0, [], ar (SD.fresh k).seen a n, by omega, ?_, .nil _ _ _, ?_, ?_, rfl⟩
  · have e : (SD.fresh k).seen.getD a ⟨#[]⟩ = zeros 64 := by
      show (List.replicate k (zeros 64)).getD a ⟨#[]⟩ = _
      rw [List.getD_eq_getElem?_getD, List.getElem?_replicate, if_pos (by omega)]
      rfl
    rw [e]
    unfold getA
    rw [if_pos rfl]
    rfl
  · intro r hr
    exfalso
    cases hA : ar (SD.fresh k).seen a n with
    | nil => rw [hA] at hr; cases hr
    | cons s l =>
      rw [hA, getRec, hz0 s (by rw [hA]; simp)] at hr
      cases hr
  · intro s hs
    rw [hzp s hs]
    omega

/-! ### Fuse -/
theorem Good.fuse {D : SD} {G : LG} {all : List By} {sf : Nat} (h : Good D G all sf) (k : Int) (hk : k ≤ 9223372036854775807) : Good (D.fuse k) G all sf := by
  obtain ⟨R0, m0, T, hg, ha, hs⟩ := h
  have hb := hg.base
  exact ⟨R0, m0, T, ⟨⟨fuse_ok hb.ok k hk, hb.n2, hb.fit, hb.E1, hb.E2, hb.ancS, hb.ancQ, hb.chain, hb.stop, hb.old, hb.low, hb.room, hb.loose, hb.seen, hb.eps⟩, hg.txt, hg.cnt, hg.use, hg.snd⟩, ha, hs⟩
theorem Falls.fuse {D : SD} {a n : Nat} {Q : List By → Prop} (h : Falls D a n Q) (k : Int) : Falls (D.fuse k) a n Q := h

/-! ### Reset -/
/-- The new record alone: of a higher epoch than all that lies there. -/
theorem only_one {E : Nat} (hE : E ≤ 1000000) {A : List By} (hA : A ≠ []) (hlow : ∀ s ∈ A, ep s < (E : Int)) {t x : By} (ht : t.length ≤ 300) (hx : secsOf (E : Int) 0 t = [x]) :
    Chain (E : Int) 0 0 (A.set 0 (padB x)) [⟨t, E, 1⟩] (A.drop 1) ∧ (∀ r, getRec (A.drop 1) ((1 : Nat) : Int) = some r → r.epoch < (E : Int)) ∧ (∀ s ∈ A.drop 1, ep s < (E : Int)) ∧ (∀ s ∈ A.set 0 (padB x), ep s ≤ (E : Int)) := by
  have hI := I64_small (show E ≤ 1000001 by omega)
  have hold : ∀ s ∈ A.drop 1, ep s < (E : Int) := fun s hs => hlow s (List.mem_of_mem_drop hs)
  have hset : A.set 0 (padB x) = padB x :: A.drop 1 := by
    cases A with
    | nil => exact absurd rfl hA
    | cons y A => rfl
  have hput := Wl.rec_put (E : Int) 0 hI (by unfold Wl.I64; omega) t ht (A.drop 1)
  rw [hx] at hput
  refine ⟨?_, fun r hr => rec_old hold hr, hold, ?_⟩
  · rw [hset]
    refine .cons (r := ⟨t, E, 1⟩) ?_ (by show (0 : Int) ≤ (E : Int); omega) (Int.le_refl _) ?_
    · exact hput
    · show Chain (E : Int) (E : Int) 1 ((padB x :: A.drop 1).drop 1) [] (A.drop 1)
      exact .nil _ _ _
  · intro s hs
    rw [hset] at hs
    rcases List.mem_cons.1 hs with e | e
    · rw [e]
      exact Int.le_of_eq (Wl.secs_ep (E : Int) 0 hI t _ (by rw [hx]; simp))
    · exact Int.le_of_lt (hold s e)

theorem after_one (q : Nat) (y : ByteArray) (K : List Bool) (S : List ByteArray) : after [(q, y)] K S 1 = if kept K 0 then S.set q y else S := after_next [(q, y)] K S 0 (q, y) rfl

/-- Reset of a log in use. -/
theorem Good.reset {D : SD} {G : LG} {all : List By} {sf : Nat} (h : Good D G all sf) (t : ByteArray) :
    (wlReset D G t).2.2.frm = G.frm ∧ (wlReset D G t).2.2.n = G.n ∧
    (((wlReset D G t).1 = 0 ∧ Good (wlReset D G t).2.1 (wlReset D G t).2.2 [bl t] 1) ∨
    (((wlReset D G t).1 = 2 ∨ (wlReset D G t).1 = 8) ∧ (wlReset D G t).2 = (D, G)) ∨
    ((wlReset D G t).1 = 13 ∧ (wlReset D G t).2.2.sound = false ∧ Falls (wlReset D G t).2.1 G.frm G.n (fun l => Front all sf l ∨ l = [bl t]))) := by
  have hfalls := h.falls
  obtain ⟨R0, m0, T, hg, rfl, hs⟩ := h
  have hb := hg.base
  have hsnd := hg.snd
  have hfit := hb.fit
  have hn2 := hb.n2
  have hE2 := hb.E2
  unfold wlReset
  rw [if_neg (by rw [hsnd]; simp)]
  by_cases ht : 300 < t.size
  · rw [if_pos ht]
    exact ⟨rfl, rfl, .inr (.inl ⟨.inl rfl, rfl⟩)⟩
  · rw [if_neg ht]
    by_cases hone : 1 < (parts (G.epoch + 1) 0 t).length
    · rw [if_pos hone]
      exact ⟨rfl, rfl, .inr (.inl ⟨.inr rfl, rfl⟩)⟩
    · rw [if_neg hone]
      by_cases hE : G.epoch = 1000000
      · rw [raise_full hE]
        unfold wlReset1
        rw [if_neg (by simp)]
        exact ⟨rfl, rfl, .inr (.inl ⟨.inr rfl, rfl⟩)⟩
      · have hEl : G.epoch < 1000000 := by omega
        have htl : (bl t).length ≤ 300 := by unfold bl; rw [size_list]; omega
        have h64 := anchor_size (G.epoch + 1) (by omega)
        by_cases hd : D.down = true
        · rw [raise_down hEl (by omega) hd]
          unfold wlReset1
          rw [if_neg (by simp)]
          exact ⟨rfl, rfl, .inr (.inr ⟨rfl, rfl, fun K => (hfalls K).mono (fun l hl => .inl hl)⟩)⟩
        · have hd' : D.down = false := by simpa using hd
          obtain ⟨w0, w1, w2, w3, w4, w5⟩ := write_keeps hb.ok (q := G.frm) (by omega) (s := anc1 G) (by show (anchorB ((G.epoch + 1 : Nat) : Int)).size ≤ 64; omega) hd'
          have hp64 : pad (anc1 G) = anc1 G := pad_full h64
          by_cases hd1 : (D.write (G.frm : Int) (anc1 G)).2.down = true
          · rw [raise_half hEl hb.ok (by omega) hd' hd1]
            unfold wlReset1
            rw [if_neg (by simp)]
            refine ⟨rfl, rfl, .inr (.inr ⟨rfl, rfl, ?_⟩)⟩
            have hdn : DownN (D.write (G.frm : Int) (anc1 G)).2 G.frm G.n G.epoch R0 m0 (news G.epoch R0.length T ++ []) [(G.frm, anchorB ((G.epoch + 1 : Nat) : Int))] := by
              rw [List.append_nil]
              refine ⟨w1, hb.n2, by rw [w2]; exact hb.fit, hb.E2, by rw [w3]; exact hb.ancS, by rw [w3]; exact hb.chain, hb.stop, hb.old, by rw [w3]; exact hb.low, hb.room, ?_, .inr ⟨rfl, by omega⟩, hb.eps⟩
              rw [w5, hb.loose, hp64]
              rfl
            exact fun K => (front_of hdn hg.txt (Wl.partial_nil _ _) hs K).mono (fun l hl => .inl hl)
          · have hd1' : (D.write (G.frm : Int) (anc1 G)).2.down = false := by simpa using hd1
            rw [raise_up hEl hb.ok (by omega) hd' hd1']
            obtain ⟨_, t2, t3⟩ := (hb.toTold hg.txt).raise (by omega) hd' hd1'
            unfold wlReset1
            rw [if_pos rfl]
            simp only
            have t2' : BaseN (D.write (G.frm : Int) (anc1 G)).2.flush.2 G.frm G.n (G.epoch + 1) (R0 ++ recs G.epoch R0.length T) (m0.drop (news G.epoch R0.length T).length) [] := t2
            have t3' : ∀ s ∈ ar (D.write (G.frm : Int) (anc1 G)).2.flush.2.safe G.frm G.n, ep s < ((G.epoch + 1 : Nat) : Int) := t3
            clear t2 t3
            generalize (D.write (G.frm : Int) (anc1 G)).2.flush.2 = D2 at t2' t3' ⊢
            have hall : (R0 ++ recs G.epoch R0.length T).map (·.text) ++ ([] : List By) = R0.map (·.text) ++ T := by rw [List.map_append, Wl.recs_text, List.append_nil]
            have hsf : sf ≤ (R0 ++ recs G.epoch R0.length T).length := by rw [List.length_append]; omega
            have hf2 : Falls D2 G.frm G.n (Front (R0.map (·.text) ++ T) sf) := by
              have := front_of (T := []) (P := []) (X := []) (sf := sf) (by simpa [news] using t2'.down) (by simp) (Wl.partial_nil _ _) hsf
              rw [hall] at this
              exact this
            -- the new record
            obtain ⟨x, hx⟩ : ∃ x, secsOf ((G.epoch + 1 : Nat) : Int) 0 (bl t) = [x] := by
              have h1 : (secsOf ((G.epoch + 1 : Nat) : Int) 0 (bl t)).length = 1 := by
                have := secs_pos ((G.epoch + 1 : Nat) : Int) 0 (bl t)
                have e : (parts (G.epoch + 1) 0 t).length = (secsOf ((G.epoch + 1 : Nat) : Int) 0 (bl t)).length := by unfold parts bl; rw [List.length_map]; rfl
                omega
              exact List.length_eq_one_iff.1 h1
            have hpx : (parts (G.epoch + 1) 0 t).getD 0 ⟨#[]⟩ = ba x := by
              have e : parts (G.epoch + 1) 0 t = (secsOf ((G.epoch + 1 : Nat) : Int) 0 (bl t)).map ba := rfl
              rw [e, hx]; rfl
            rw [hpx]
            have hI := I64_small (show G.epoch + 1 ≤ 1000001 by omega)
            have hxl : x.length ≤ 64 := secs_le (c := 0) hI (by unfold Wl.I64; omega) (bl t) x (by rw [hx]; simp)
            have hfit2 := t2'.fit
            have hAne : ar D2.safe G.frm G.n ≠ [] := fun e => by have := t2'.lens.1; rw [e] at this; simp at this; omega
            obtain ⟨o1, o2, o3, o4⟩ := only_one (by omega) hAne t3' htl hx
            have hsame : ar D2.seen G.frm G.n = ar D2.safe G.frm G.n := by
              rw [t2'.seen, List.nil_append, t2'.chain.drop.2.1]
              simp
            unfold wlOnly wlSafe
            by_cases hd2 : D2.down = true
            · have ew : wlWrite D2 { G with epoch := G.epoch + 1 } 1 (ba x) = (13, D2, LG.off { G with epoch := G.epoch + 1 }) := by
                unfold wlWrite
                rw [show ((({ G with epoch := G.epoch + 1 } : LG).frm : Int) + ((1 : Nat) : Int)) = ((G.frm + 1 : Nat) : Int) by show (G.frm : Int) + 1 = _; omega, write_down (by omega) _ (by rw [ba_size]; exact hxl) hd2, heed13]
              rw [ew, if_neg (by simp), if_neg (by simp)]
              exact ⟨rfl, rfl, .inr (.inr ⟨rfl, rfl, fun K => (hf2 K).mono (fun l hl => .inl hl)⟩)⟩
            · have hd2' : D2.down = false := by simpa using hd2
              obtain ⟨v0, v1, v2, v3, v4, v5⟩ := write_keeps t2'.ok (q := G.frm + 1) (by omega) (s := ba x) (by rw [ba_size]; exact hxl) hd2'
              have ew : wlWrite D2 { G with epoch := G.epoch + 1 } 1 (ba x) = (0, (D2.write ((G.frm + 1 : Nat) : Int) (ba x)).2, { G with epoch := G.epoch + 1 }) := by
                unfold wlWrite
                rw [show ((({ G with epoch := G.epoch + 1 } : LG).frm : Int) + ((1 : Nat) : Int)) = ((G.frm + 1 : Nat) : Int) by show (G.frm : Int) + 1 = _; omega, v0, heed_zero]
              rw [ew, if_pos rfl]
              simp only
              unfold wlFlush
              have hloose : D2.loose = [] := by rw [t2'.loose]; rfl
              rw [hloose, List.nil_append] at v5
              have hseen3 : ar (D2.write ((G.frm + 1 : Nat) : Int) (ba x)).2.seen G.frm G.n = (ar D2.safe G.frm G.n).set 0 (padB x) := by
                rw [v4]
                have := ar_set D2.seen G.frm G.n 0 (pad (ba x))
                rw [Nat.add_zero] at this
                rw [this, pad_ba, hsame]
              have hanc3 : (D2.write ((G.frm + 1 : Nat) : Int) (ba x)).2.seen.getD G.frm ⟨#[]⟩ = anchorB ((G.epoch + 1 : Nat) : Int) := by
                rw [v4, getD_set_other _ (by omega)]
                exact t2'.ancQ
              by_cases hd3 : (D2.write ((G.frm + 1 : Nat) : Int) (ba x)).2.down = true
              · rw [flush_down hd3, heed13, if_neg (by simp)]
                refine ⟨rfl, rfl, .inr (.inr ⟨rfl, rfl, fun K => ?_⟩)⟩
                obtain ⟨k1, k2⟩ := crash_ok v1 K
                have hS : (SD.crash (D2.write ((G.frm + 1 : Nat) : Int) (ba x)).2 K).seen = if kept K 0 then D2.safe.set (G.frm + 1) (pad (ba x)) else D2.safe := by
                  show after (D2.write ((G.frm + 1 : Nat) : Int) (ba x)).2.loose K (D2.write ((G.frm + 1 : Nat) : Int) (ba x)).2.safe (D2.write ((G.frm + 1 : Nat) : Int) (ba x)).2.loose.length = _
                  rw [v5, v3]
                  exact after_one _ _ K _
                have hset : ar (D2.safe.set (G.frm + 1) (pad (ba x))) G.frm G.n = (ar D2.safe G.frm G.n).set 0 (padB x) := by
                  have := ar_set D2.safe G.frm G.n 0 (pad (ba x))
                  rw [Nat.add_zero] at this
                  rw [this, pad_ba]
                refine ⟨k1, hb.n2, by rw [k2, v2]; exact hfit2, rfl, rfl, rfl, ?_⟩
                rw [hS]
                by_cases hk : kept K 0 = true
                · rw [if_pos hk, hset]
                  refine ⟨G.epoch + 1, [⟨bl t, _, 1⟩], _, by omega, ?_, o1, o2, o4, .inr rfl⟩
                  rw [getD_set_other _ (by omega), t2'.ancS]
                  exact getA_anchor _ (by omega)
                · rw [if_neg hk]
                  refine ⟨G.epoch + 1, _, _, by omega, ?_, t2'.chain, t2'.stop, t2'.low, .inl ⟨by rw [List.length_map]; exact hsf, ?_⟩⟩
                  · rw [t2'.ancS]
                    exact getA_anchor _ (by omega)
                  · rw [← hall, List.append_nil]
                    exact List.prefix_refl _
              · have hd3' : (D2.write ((G.frm + 1 : Nat) : Int) (ba x)).2.down = false := by simpa using hd3
                rw [flush_up hd3']
                simp only
                rw [heed_zero, if_pos trivial]
                obtain ⟨b1, b2, b3⟩ := burn_same (D2.write ((G.frm + 1 : Nat) : Int) (ba x)).2
                have hok4 := burn_ok v1 hd3'
                have hlen1 : sizes [(⟨bl t, ((G.epoch + 1 : Nat) : Int), 1⟩ : Rec)] = 1 := rfl
                refine ⟨rfl, rfl, .inl ⟨rfl, [⟨bl t, ((G.epoch + 1 : Nat) : Int), 1⟩], (ar D2.safe G.frm G.n).drop 1, [], ⟨⟨⟨rfl, hok4.small, hok4.seen64, hok4.seen64, by simp, hok4.left0, hok4.leftM⟩, hb.n2, ?_, by show 1 ≤ G.epoch + 1; omega, by show G.epoch + 1 ≤ 1000000; omega, ?_, ?_, ?_, o2, o3, ?_, Nat.zero_le _, rfl, ?_, by simp [news]⟩, by simp, rfl, rfl, hsnd⟩, rfl, Nat.le_refl _⟩⟩
                · show G.frm + G.n ≤ (D2.write ((G.frm + 1 : Nat) : Int) (ba x)).2.burn.seen.length
                  rw [b2]
                  have : (D2.write ((G.frm + 1 : Nat) : Int) (ba x)).2.seen.length = D2.n := v2
                  omega
                · show (D2.write ((G.frm + 1 : Nat) : Int) (ba x)).2.burn.seen.getD G.frm ⟨#[]⟩ = _
                  rw [b2]; exact hanc3
                · show (D2.write ((G.frm + 1 : Nat) : Int) (ba x)).2.burn.seen.getD G.frm ⟨#[]⟩ = _
                  rw [b2]; exact hanc3
                · show Chain _ 0 0 (ar (D2.write ((G.frm + 1 : Nat) : Int) (ba x)).2.burn.seen G.frm G.n) _ _
                  rw [b2, hseen3]; exact o1
                · show ∀ s ∈ ar (D2.write ((G.frm + 1 : Nat) : Int) (ba x)).2.burn.seen G.frm G.n, _
                  rw [b2, hseen3]; exact o4
                · show ar (D2.write ((G.frm + 1 : Nat) : Int) (ba x)).2.burn.seen G.frm G.n = (ar (D2.write ((G.frm + 1 : Nat) : Int) (ba x)).2.burn.seen G.frm G.n).take _ ++ ([] ++ ((ar D2.safe G.frm G.n).drop 1).drop 0)
                  rw [b2, hseen3, hlen1, List.nil_append, List.drop_zero, o1.drop.2.1, hlen1, List.take_append_drop]

end Go.Proofs.Ythfpinjegfgeiaa
