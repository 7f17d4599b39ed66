/- A log on a disk, as plain lists: what lies there while it is in use, and what any crash leaves. No program in it. -/
import Derived.Test.YthfpinjegfgeiafWalOpen
namespace Go.Proofs.Ythfpinjegfgeiaf
open Go
set_option maxRecDepth 100000
open Wl (By Rec Chain Ends lastEp sizes getRec ep news recs Partial Mixed padB secsOf)

/-! ### Sectors as lists of bytes -/
def bl (s : ByteArray) : By := s.data.toList
def ar (L : List ByteArray) (a n : Nat) : List By := lists ((L.drop (a + 1)).take (n - 1))
theorem ar_at (L : List ByteArray) (a n k : Nat) : (ar L a n)[k]? = if k < n - 1 then (L[a + 1 + k]?).map bl else none := by
  unfold ar lists
  rw [List.getElem?_map, List.getElem?_take]
  split
  · rw [List.getElem?_drop]; rfl
  · rfl
theorem ar_len (L : List ByteArray) (a n : Nat) (h : a + n ≤ L.length) : (ar L a n).length = n - 1 := by
  unfold ar
  rw [lists_len, List.length_take, List.length_drop]
  omega
theorem ar_set (L : List ByteArray) (a n k : Nat) (s : ByteArray) : ar (L.set (a + 1 + k) s) a n = (ar L a n).set k (bl s) := by
  unfold ar lists
  rw [List.drop_set, if_neg (by omega), Nat.add_sub_cancel_left, List.take_set, List.map_set]
  rfl
theorem ar_anchor (L : List ByteArray) (a n : Nat) (s : ByteArray) : ar (L.set a s) a n = ar L a n := by
  unfold ar
  rw [List.drop_set, if_pos (by omega)]
theorem ar_secs (D : SD) (a n : Nat) : (lists (secs D a n)).drop 1 = ar D.seen a n := by
  unfold secs ar lists
  rw [← List.map_drop, List.drop_take, List.drop_drop]
theorem getD_at {L : List ByteArray} {k : Nat} (h : k < L.length) : L[k]? = some (L.getD k ⟨#[]⟩) := by
  rw [List.getElem?_eq_getElem h]
  simp [List.getD, List.getElem?_eq_getElem h]
theorem getD_set_same {L : List ByteArray} {k : Nat} (h : k < L.length) (s : ByteArray) : (L.set k s).getD k ⟨#[]⟩ = s := by
  simp [List.getD, List.getElem?_set_self h]
theorem getD_set_other (L : List ByteArray) {k j : Nat} (h : j ≠ k) (s : ByteArray) : (L.set k s).getD j ⟨#[]⟩ = L.getD j ⟨#[]⟩ := by
  simp [List.getD, List.getElem?_set_ne (Ne.symm h)]
theorem pad_bl (t : ByteArray) : bl (pad t) = padB (bl t) := by
  unfold bl pad padB
  rw [app_list, size_list]
  rfl
theorem pad_ba (l : By) : bl (pad (ba l)) = padB l := by rw [pad_bl]; unfold bl; rw [ba_list]
theorem ba_bl (s : ByteArray) : ba (bl s) = s := ba_back s
theorem pad_eq (l : By) : pad (ba l) = ba (padB l) := by rw [← pad_ba, ba_bl]

/-! ### The anchor -/
theorem anchor_bl (E : Nat) : bl (anchorB (E : Int)) = 3 :: (Wl.intB (E : Int) ++ (PFold.Fo.four (PFold.Fo.sum (Wl.intB (E : Int))) ++ List.replicate (64 - (3 :: Wl.sumF (Wl.intB (E : Int))).length) 0)) := by
  unfold anchorB
  rw [pad_ba]
  unfold padB Wl.sumF
  simp
theorem getA_anchor (E : Nat) (h : E ≤ 1000000) : getA (anchorB (E : Int)) = ((E : Int), true) := by
  have e0 := anchor_bl E
  have e1 : PCode.Nb.getI ((anchorB (E : Int)).data.toList.drop 1) = ((E : Int), (Wl.intB (E : Int)).length, 0) := by
    show PCode.Nb.getI ((bl (anchorB (E : Int))).drop 1) = _
    rw [e0, List.drop_succ_cons, List.drop_zero]
    exact Wl.getI_int _ (by unfold Wl.I64; omega) _
  have e2 : anchorB (E : Int) ≠ zeros 64 := fun e => by
    have e3 := congrArg (fun s => (bl s).head?) e
    simp only [e0] at e3
    revert e3
    show some (3 : UInt8) = some 0 → False
    decide
  unfold getA
  rw [if_neg e2, e1]
  simp only
  rw [if_pos ⟨trivial, by omega, by omega⟩]
  simp
theorem anchor_size (E : Nat) (h : E ≤ 1000001) : (anchorB (E : Int)).size = 64 := by
  unfold anchorB
  refine pad_size _ ?_
  rw [ba_size, List.length_cons, sumF_len]
  have := (Wl.intB_len (E : Int) (by unfold Wl.I64; omega)).2
  omega

/-! ### Writes that may be lost -/
def mkL : Nat → List By → List (Nat × ByteArray)
  | _, [] => []
  | b, x :: N => (b, ba x) :: mkL (b + 1) N
theorem mkL_app (b : Nat) (N M : List By) : mkL b (N ++ M) = mkL b N ++ mkL (b + N.length) M := by
  induction N generalizing b with
  | nil => rfl
  | cons x N ih => rw [List.cons_append, mkL, mkL, ih, List.cons_append, List.length_cons, show b + 1 + N.length = b + (N.length + 1) by omega]
theorem mkL_at (b : Nat) (N : List By) (j : Nat) : (mkL b N)[j]? = N[j]?.map fun x => (b + j, ba x) := by
  induction N generalizing b j with
  | nil => rfl
  | cons x N ih =>
    cases j with
    | zero => rfl
    | succ j => rw [mkL, List.getElem?_cons_succ, ih, List.getElem?_cons_succ, show b + 1 + j = b + (j + 1) by omega]
theorem mkL_len (b : Nat) (N : List By) : (mkL b N).length = N.length := by
  induction N generalizing b with
  | nil => rfl
  | cons x N ih => rw [mkL, List.length_cons, ih, List.length_cons]

/-- Behind a crash each sector is as it was safe, or as it was written since. -/
theorem after_at (L : List (Nat × ByteArray)) (K : List Bool) (S : List ByteArray) (q : Nat) (hq : q < S.length) : ∀ i, (after L K S i)[q]? = S[q]? ∨ ∃ j x, j < i ∧ L[j]? = some x ∧ x.1 = q ∧ (after L K S i)[q]? = some x.2 := by
  intro i
  induction i with
  | zero => exact .inl rfl
  | succ i ih =>
    have old : (∃ j x, j < i ∧ L[j]? = some x ∧ x.1 = q ∧ (after L K S i)[q]? = some x.2) → ∃ j x, j < i + 1 ∧ L[j]? = some x ∧ x.1 = q ∧ (after L K S i)[q]? = some x.2 := fun ⟨j, x, h1, h2⟩ => ⟨j, x, by omega, h2⟩
    cases hL : L[i]? with
    | none =>
      have e : after L K S (i + 1) = after L K S i := by rw [after, hL]
      rw [e]
      exact ih.imp id old
    | some x =>
      rw [after_next L K S i x hL]
      split
      · by_cases hx : x.1 = q
        · refine .inr ⟨i, x, by omega, hL, hx, ?_⟩
          rw [hx, List.getElem?_set_self (by rw [after_len]; exact hq)]
        · rw [List.getElem?_set_ne hx]
          exact ih.imp id old
      · exact ih.imp id old

/-! ### A log in use -/
structure BaseN (D : SD) (a n E : Nat) (R0 : List Rec) (m0 N : List By) : Prop where
  ok : D.ok
  n2 : 2 ≤ n
  fit : a + n ≤ D.n
  E1 : 1 ≤ E
  E2 : E ≤ 1000000
  ancS : D.safe.getD a ⟨#[]⟩ = anchorB (E : Int)
  ancQ : D.seen.getD a ⟨#[]⟩ = anchorB (E : Int)
  chain : Chain (E : Int) 0 0 (ar D.safe a n) R0 m0
  stop : ∀ r, getRec m0 ((R0.length : Nat) : Int) = some r → r.epoch < lastEp 0 R0
  old : ∀ s ∈ m0, ep s < (E : Int)
  low : ∀ s ∈ ar D.safe a n, ep s ≤ (E : Int)
  room : N.length ≤ m0.length
  loose : D.loose = mkL (a + 1 + sizes R0) N
  seen : ar D.seen a n = (ar D.safe a n).take (sizes R0) ++ (N ++ m0.drop N.length)
  eps : ∀ s ∈ N, ep s = (E : Int)

theorem burn_same (D : SD) : D.burn.safe = D.safe ∧ D.burn.seen = D.seen ∧ D.burn.loose = D.loose := by unfold SD.burn; split <;> exact ⟨rfl, rfl, rfl⟩
theorem I64_nat {E : Nat} (h : E ≤ 1000001) : Wl.I64 (E : Int) := by unfold Wl.I64; omega

section
variable {D : SD} {a n E : Nat} {R0 : List Rec} {m0 N : List By} (h : BaseN D a n E R0 m0 N)
include h
theorem BaseN.lens : (ar D.safe a n).length = n - 1 ∧ (ar D.seen a n).length = n - 1 ∧ sizes R0 + m0.length = n - 1 ∧ m0 = (ar D.safe a n).drop (sizes R0) := by
  have h1 : (ar D.safe a n).length = n - 1 := ar_len _ _ _ (by rw [h.ok.len]; exact h.fit)
  have h2 : (ar D.seen a n).length = n - 1 := ar_len _ _ _ h.fit
  obtain ⟨c1, c2, _⟩ := h.chain.drop
  refine ⟨h1, h2, ?_, c2⟩
  rw [c2, List.length_drop, h1]
  omega
/-- The next sector is written. -/
theorem BaseN.write (hd : D.down = false) (x : By) (hx : x.length ≤ 64) (he : ep (padB x) = (E : Int)) (hroom : N.length < m0.length) :
    (D.write (((a + 1 + sizes R0 + N.length : Nat)) : Int) (ba x)).1 = 0 ∧ BaseN (D.write (((a + 1 + sizes R0 + N.length : Nat)) : Int) (ba x)).2 a n E R0 m0 (N ++ [padB x]) := by
  obtain ⟨l1, l2, l3, l4⟩ := h.lens
  have hfit := h.fit
  have hin : a + 1 + sizes R0 + N.length < D.n := by omega
  have ew : D.write (((a + 1 + sizes R0 + N.length : Nat)) : Int) (ba x) = (0, { D.burn with seen := D.burn.seen.set (a + 1 + sizes R0 + N.length) (pad (ba x)), loose := D.burn.loose ++ [(a + 1 + sizes R0 + N.length, pad (ba x))] }) := by
    unfold SD.write SD.has
    rw [if_neg (by simp; omega), if_neg (by rw [ba_size]; omega), hd, if_neg (by simp), Int.toNat_natCast]
  rw [ew]
  obtain ⟨b1, b2, b3⟩ := burn_same D
  have hps : (pad (ba x)).size = 64 := pad_size _ (by rw [ba_size]; exact hx)
  have hok := burn_ok h.ok hd
  refine ⟨rfl, ⟨⟨?_, ?_, ?_, ?_, ?_, hok.left0, hok.leftM⟩, h.n2, ?_, h.E1, h.E2, ?_, ?_, ?_, h.stop, h.old, ?_, ?_, ?_, ?_, ?_⟩⟩
  · show D.burn.safe.length = (D.burn.seen.set _ _).length
    rw [List.length_set]
    exact hok.len
  · show (D.burn.seen.set _ _).length ≤ 256
    rw [List.length_set]
    exact hok.small
  · exact hok.safe64
  · intro t ht
    rcases List.mem_or_eq_of_mem_set ht with e | e
    · exact hok.seen64 t e
    · rw [e]; exact hps
  · intro y hy
    have hn : SD.n { D.burn with seen := D.burn.seen.set (a + 1 + sizes R0 + N.length) (pad (ba x)), loose := D.burn.loose ++ [(a + 1 + sizes R0 + N.length, pad (ba x))] } = D.burn.n := List.length_set
    rw [hn]
    rcases List.mem_append.1 hy with e | e
    · exact hok.loose64 y e
    · rw [List.mem_singleton.1 e]
      refine ⟨?_, hps⟩
      show a + 1 + sizes R0 + N.length < D.burn.seen.length
      rw [b2]; exact hin
  · show a + n ≤ (D.burn.seen.set _ _).length
    rw [List.length_set, b2]; exact h.fit
  · show D.burn.safe.getD a ⟨#[]⟩ = _
    rw [b1]; exact h.ancS
  · show (D.burn.seen.set _ _).getD a ⟨#[]⟩ = _
    rw [getD_set_other _ (by omega), b2]; exact h.ancQ
  · show Chain (E : Int) 0 0 (ar D.burn.safe a n) R0 m0
    rw [b1]; exact h.chain
  · show ∀ s ∈ ar D.burn.safe a n, _
    rw [b1]; exact h.low
  · rw [List.length_append]; simp; omega
  · show D.burn.loose ++ _ = _
    rw [b3, h.loose, mkL_app, pad_eq]
    rfl
  · show ar (D.burn.seen.set _ _) a n = (ar D.burn.safe a n).take _ ++ _
    rw [b1, b2, show a + 1 + sizes R0 + N.length = a + 1 + (sizes R0 + N.length) by omega, ar_set, h.seen, pad_ba]
    have e1 : ((ar D.safe a n).take (sizes R0)).length = sizes R0 := by rw [List.length_take]; omega
    rw [List.set_append_right _ _ (by omega), e1, Nat.add_sub_cancel_left, List.set_append_right _ _ (by omega), Nat.sub_self]
    have e2 : m0.drop N.length = m0[N.length] :: m0.drop (N.length + 1) := List.drop_eq_getElem_cons hroom
    rw [e2, List.set_cons_zero, List.length_append, List.append_assoc]
    rfl
  · intro s hs
    rcases List.mem_append.1 hs with e | e
    · exact h.eps s e
    · rw [List.mem_singleton.1 e]; exact he
end

end Go.Proofs.Ythfpinjegfgeiaf
