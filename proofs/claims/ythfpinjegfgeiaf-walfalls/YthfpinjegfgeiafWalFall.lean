/- A log on a disk, as plain lists: flush, raise, crash; what may be told behind a crash. No program in it. -/
import Derived.Test.YthfpinjegfgeiafWalLive
namespace Go.Proofs.Ythfpinjegfgeiaf
open Go
set_option maxRecDepth 100000
open Wl (By Rec Chain Ends lastEp sizes getRec ep news recs Partial Mixed padB secsOf)

theorem rec_old {m : List By} {E : Int} (h : ∀ s ∈ m, ep s < E) {k : Int} {r : Rec} (hr : getRec m k = some r) : r.epoch < E := by
  obtain ⟨q1, _, q3, _⟩ := Wl.rec_local hr
  obtain ⟨s, a, b⟩ := q3 0 (by omega)
  rw [← b]
  exact h s (List.mem_of_getElem? a)
theorem secs_pos (E c : Int) (t : By) : 1 ≤ (secsOf E c t).length := by
  obtain ⟨f, _, h⟩ := Wl.secs_cons E c t
  rw [h]; simp
theorem news_len (E : Int) (T : List By) : ∀ c, T.length ≤ (news E c T).length := by
  induction T with
  | nil => intro c; simp
  | cons t T ih =>
    intro c
    have := ih (c + 1)
    have := secs_pos E c t
    rw [news, List.length_append, List.length_map, List.length_cons]
    omega
theorem cut_64 (h2 : By) (l2 : h2.length ≤ 64) : ∀ (f : Nat) (h1 r : By), h1.length ≤ 64 → ∀ x ∈ Wl.cut h2 h1 f r, x.length ≤ 64 := by
  intro f
  induction f with
  | zero => intro h1 r _ x hx; cases hx
  | succ f ih =>
    intro h1 r l1 x hx
    rw [Wl.cut] at hx
    split at hx
    · cases hx
    · rcases List.mem_cons.1 hx with rfl | hx
      · rw [List.length_append, List.length_take]; omega
      · exact ih h2 _ l2 x hx
theorem secs_le {E c : Int} (hE : Wl.I64 E) (hc : Wl.I64 c) (t : By) : ∀ x ∈ secsOf E c t, x.length ≤ 64 :=
  cut_64 _ (by have := Wl.head_len 2 E c hE hc; omega) _ _ _ (by have := Wl.head_len 1 E c hE hc; omega)

/-- All of the new ones are told. -/
theorem BaseN.told {D : SD} {a n E : Nat} {R0 : List Rec} {m0 : List By} {T : List By} (h : BaseN D a n E R0 m0 (news E R0.length T)) (hT : ∀ t ∈ T, t.length ≤ 300) :
    Chain (E : Int) 0 0 (ar D.seen a n) (R0 ++ recs E R0.length T) (m0.drop (news E R0.length T).length) ∧ (∀ s ∈ m0.drop (news E R0.length T).length, ep s < (E : Int)) ∧
    (∀ r, getRec (m0.drop (news E R0.length T).length) (((R0 ++ recs E R0.length T).length : Nat) : Int) = some r → r.epoch < lastEp 0 (R0 ++ recs E R0.length T)) ∧ (∀ s ∈ ar D.seen a n, ep s ≤ (E : Int)) ∧ R0.length + T.length ≤ 256 := by
  obtain ⟨l1, l2, l3, l4⟩ := h.lens
  have hE := I64_nat (show E ≤ 1000001 by have := h.E2; omega)
  have hfit := h.fit
  have hsm := h.ok.small
  have hR := h.chain.drop.2.2
  have hroom := h.room
  have hTl := news_len (E : Int) T R0.length
  have hlast := h.chain.last_le (by omega)
  have c1 := h.chain.behind (news E R0.length T ++ m0.drop (news E R0.length T).length)
  have c2 := Wl.all_new hE (Int.le_refl _) T R0.length (lastEp 0 R0) (m0.drop (news E R0.length T).length) (by omega) hT hlast.2
  have hold : ∀ s ∈ m0.drop (news E R0.length T).length, ep s < (E : Int) := fun s hs => h.old s (List.mem_of_mem_drop hs)
  refine ⟨?_, hold, ?_, ?_, by omega⟩
  · rw [h.seen]
    exact c1.trans (by rw [Nat.zero_add]; exact c2)
  · intro r hr
    rw [Wl.lastEp_app, Wl.recs_last]
    split
    · rename_i hnil
      subst hnil
      simp only [news, recs, List.length_nil, List.drop_zero, List.append_nil] at hr
      exact h.stop r hr
    · exact rec_old hold hr
  · intro s hs
    rw [h.seen] at hs
    rcases List.mem_append.1 hs with e | e
    · exact h.low s (List.mem_of_mem_take e)
    · rcases List.mem_append.1 e with e | e
      · exact Int.le_of_eq (h.eps s e)
      · exact Int.le_of_lt (hold s e)

theorem flush_up {D : SD} (hd : D.down = false) : D.flush = (0, { D.burn with safe := D.burn.seen, loose := [] }) := by unfold SD.flush; rw [hd]; rfl
theorem flush_down {D : SD} (hd : D.down = true) : D.flush = (13, D) := by unfold SD.flush; rw [hd]; rfl

/-- A flush: all is safe. -/
theorem BaseN.flush {D : SD} {a n E : Nat} {R0 : List Rec} {m0 : List By} {T : List By} (h : BaseN D a n E R0 m0 (news E R0.length T)) (hT : ∀ t ∈ T, t.length ≤ 300) (hd : D.down = false) :
    BaseN D.flush.2 a n E (R0 ++ recs E R0.length T) (m0.drop (news E R0.length T).length) [] := by
  obtain ⟨t1, t2, t3, t4, _⟩ := h.told hT
  rw [flush_up hd]
  obtain ⟨b1, b2, b3⟩ := burn_same D
  have hok := burn_ok h.ok hd
  have hd2 := t1.drop
  refine ⟨⟨rfl, hok.small, hok.seen64, hok.seen64, by simp, hok.left0, hok.leftM⟩, h.n2, ?_, h.E1, h.E2, ?_, ?_, ?_, t3, t2, ?_, Nat.zero_le _, rfl, ?_, by simp⟩
  · show a + n ≤ D.burn.seen.length
    rw [b2]; exact h.fit
  · show D.burn.seen.getD a ⟨#[]⟩ = _
    rw [b2]; exact h.ancQ
  · show D.burn.seen.getD a ⟨#[]⟩ = _
    rw [b2]; exact h.ancQ
  · show Chain (E : Int) 0 0 (ar D.burn.seen a n) _ _
    rw [b2]; exact t1
  · show ∀ s ∈ ar D.burn.seen a n, _
    rw [b2]; exact t4
  · show ar D.burn.seen a n = (ar D.burn.seen a n).take _ ++ ([] ++ (m0.drop (news E R0.length T).length).drop 0)
    rw [List.nil_append, List.drop_zero, hd2.2.1, b2, List.take_append_drop]

/-! ### What a crash may leave -/
structure Fallen (D : SD) (a n : Nat) (Q : List By → Prop) : Prop where
  ok : D.ok
  n2 : 2 ≤ n
  fit : a + n ≤ D.n
  up : D.fused = false
  none : D.loose = []
  same : D.safe = D.seen
  log : ∃ E R m, E ≤ 1000000 ∧ getA (D.seen.getD a ⟨#[]⟩) = (((E : Nat) : Int), true) ∧ Chain ((E : Nat) : Int) 0 0 (ar D.seen a n) R m ∧ (∀ r, getRec m ((R.length : Nat) : Int) = some r → r.epoch < lastEp 0 R) ∧ (∀ s ∈ ar D.seen a n, ep s ≤ ((E : Nat) : Int)) ∧ Q (R.map (·.text))

theorem Fallen.mono {D : SD} {a n : Nat} {Q Q' : List By → Prop} (h : Fallen D a n Q) (hq : ∀ l, Q l → Q' l) : Fallen D a n Q' := by
  obtain ⟨E, R, m, h1, h2, h3, h4, h5, h6⟩ := h.log
  exact ⟨h.ok, h.n2, h.fit, h.up, h.none, h.same, E, R, m, h1, h2, h3, h4, h5, hq _ h6⟩

/-- A disk with Writes that may be lost: those of new records, and perhaps the next anchor's. -/
structure DownN (D : SD) (a n E : Nat) (R0 : List Rec) (m0 N : List By) (X : List (Nat × ByteArray)) : Prop where
  ok : D.ok
  n2 : 2 ≤ n
  fit : a + n ≤ D.n
  E2 : E ≤ 1000000
  ancS : D.safe.getD a ⟨#[]⟩ = anchorB (E : Int)
  chain : Chain (E : Int) 0 0 (ar D.safe a n) R0 m0
  stop : ∀ r, getRec m0 ((R0.length : Nat) : Int) = some r → r.epoch < lastEp 0 R0
  old : ∀ s ∈ m0, ep s < (E : Int)
  low : ∀ s ∈ ar D.safe a n, ep s ≤ (E : Int)
  room : N.length ≤ m0.length
  loose : D.loose = mkL (a + 1 + sizes R0) N ++ X
  more : X = [] ∨ (X = [(a, anchorB ((E + 1 : Nat) : Int))] ∧ E + 1 ≤ 1000000)
  eps : ∀ s ∈ N, ep s = (E : Int)
theorem BaseN.down {D : SD} {a n E : Nat} {R0 : List Rec} {m0 N : List By} (h : BaseN D a n E R0 m0 N) : DownN D a n E R0 m0 N [] :=
  ⟨h.ok, h.n2, h.fit, h.E2, h.ancS, h.chain, h.stop, h.old, h.low, h.room, by rw [List.append_nil]; exact h.loose, .inl rfl, h.eps⟩

theorem crash_ok {D : SD} (h : D.ok) (K : List Bool) : (D.crash K).ok ∧ (D.crash K).n = D.n := by
  have hl : (after D.loose K D.safe D.loose.length).length = D.n := by rw [after_len]; exact h.len
  have h64 : ∀ i, ∀ t ∈ after D.loose K D.safe i, t.size = 64 := by
    intro i
    induction i with
    | zero => exact h.safe64
    | succ i ih =>
      intro t ht
      cases hL : D.loose[i]? with
      | none => rw [after, hL] at ht; exact ih t ht
      | some x =>
        rw [after_next D.loose K D.safe i x hL] at ht
        split at ht
        · rcases List.mem_or_eq_of_mem_set ht with e | e
          · exact ih t e
          · rw [e]; exact (h.loose64 x (List.mem_of_getElem? hL)).2
        · exact ih t ht
  refine ⟨⟨rfl, ?_, h64 _, h64 _, ?_, ?_, ?_⟩, hl⟩
  · show (after D.loose K D.safe D.loose.length).length ≤ 256
    rw [hl]; exact h.small
  · intro x hx; cases hx
  · show (0 : Int) ≤ 0; omega
  · show (0 : Int) ≤ _; omega

theorem mkL_app_at {b : Nat} {N : List By} {X : List (Nat × ByteArray)} {j : Nat} {x : Nat × ByteArray} (h : (mkL b N ++ X)[j]? = some x) : (∃ s, N[j]? = some s ∧ x = (b + j, ba s)) ∨ x ∈ X := by
  by_cases hj : j < (mkL b N).length
  · rw [List.getElem?_append_left hj, mkL_at] at h
    cases hN : N[j]? with
    | none => rw [hN] at h; cases h
    | some s =>
      rw [hN] at h
      simp only [Option.map_some, Option.some.injEq] at h
      exact .inl ⟨s, rfl, h.symm⟩
  · rw [List.getElem?_append_right (by omega)] at h
    exact .inr (List.mem_of_getElem? h)

/-- GRAY: whatever is lost, what is told is a beginning. -/
theorem DownN.crash {D : SD} {a n E : Nat} {R0 : List Rec} {m0 : List By} {T P : List By} {X : List (Nat × ByteArray)} (h : DownN D a n E R0 m0 (news E R0.length T ++ P) X) (hT : ∀ t ∈ T, t.length ≤ 300) (hP : Partial E (R0.length + T.length) P) (K : List Bool) :
    Fallen (D.crash K) a n (fun l => ∃ i, i ≤ T.length ∧ l = R0.map (·.text) ++ T.take i) := by
  obtain ⟨cok, cn⟩ := crash_ok h.ok K
  have hsl : D.safe.length = D.n := h.ok.len
  have hfit := h.fit
  have hn2 := h.n2
  have hsm := h.ok.small
  have hE := I64_nat (show E ≤ 1000001 by have := h.E2; omega)
  obtain ⟨d1, d2, d3⟩ := h.chain.drop
  have l1 : (ar D.safe a n).length = n - 1 := ar_len _ _ _ (by rw [hsl]; exact h.fit)
  have hroom := h.room
  obtain ⟨S', hS'⟩ : ∃ S', S' = after D.loose K D.safe D.loose.length := ⟨_, rfl⟩
  have hS'l : S'.length = D.n := by rw [hS', after_len]; exact h.ok.len
  have l2 : (ar S' a n).length = n - 1 := ar_len _ _ _ (by rw [hS'l]; exact h.fit)
  -- each sector of the log
  have hsec : ∀ k, k < n - 1 → ∀ s, (ar S' a n)[k]? = some s → (ar D.safe a n)[k]? = some s ∨ ∃ j, k = sizes R0 + j ∧ (news E R0.length T ++ P)[j]? = some s := by
    intro k hk s hs
    rw [ar_at, if_pos hk] at hs ⊢
    rcases after_at D.loose K D.safe (a + 1 + k) (by omega) D.loose.length with e | ⟨j, x, _, hx, hx1, e⟩
    · rw [← hS'] at e
      rw [e] at hs
      exact .inl hs
    · rw [← hS'] at e
      rw [e] at hs
      simp only [Option.map_some, Option.some.injEq] at hs
      rw [h.loose] at hx
      rcases mkL_app_at hx with ⟨s', hN, rfl⟩ | hX
      · refine .inr ⟨j, by simp only at hx1; omega, ?_⟩
        rw [hN, ← hs]
        simp only [bl, ba_list]
      · rcases h.more with rfl | ⟨rfl, _⟩
        · cases hX
        · rw [List.mem_singleton.1 hX] at hx1
          simp only at hx1
          omega
  have htake : (ar S' a n).take (sizes R0) = (ar D.safe a n).take (sizes R0) := by
    apply Wl.take_eq_of
    intro k hk
    have hk1 : k < n - 1 := by omega
    obtain ⟨s, hs⟩ : ∃ s, (ar S' a n)[k]? = some s := ⟨_, List.getElem?_eq_getElem (by omega)⟩
    refine ⟨s, ?_, hs⟩
    rcases hsec k hk1 s hs with e | ⟨j, e, _⟩
    · exact e
    · omega
  have hmix : Mixed ((ar S' a n).drop (sizes R0)) m0 (news E R0.length T ++ P) := by
    refine ⟨by rw [List.length_drop, l2, d2, List.length_drop, l1], fun j s hs => ?_⟩
    rw [List.getElem?_drop] at hs
    have hk : sizes R0 + j < n - 1 := by
      have := (List.getElem?_eq_some_iff.1 hs).1
      omega
    rcases hsec _ hk s hs with e | ⟨j', e1, e2⟩
    · left
      rw [d2, List.getElem?_drop]
      exact e
    · right
      have : j' = j := by omega
      rw [← this]
      exact e2
  have hTl := news_len (E : Int) T R0.length
  rw [List.length_append] at hroom
  have hm0 : m0.length ≤ 256 := by rw [d2, List.length_drop, l1]; omega
  have hlow : ∀ s ∈ ar S' a n, ep s ≤ (E : Int) := by
    intro s hs
    obtain ⟨k, hk⟩ := List.getElem?_of_mem hs
    have hk1 : k < n - 1 := by have := (List.getElem?_eq_some_iff.1 hk).1; omega
    rcases hsec k hk1 s hk with e | ⟨j, _, e⟩
    · exact h.low s (List.mem_of_getElem? e)
    · exact Int.le_of_eq (h.eps s (List.mem_of_getElem? e))
  have hlast := h.chain.last_le (by omega)
  -- the anchor
  have hanc : ∃ E' : Nat, E ≤ E' ∧ E' ≤ 1000000 ∧ getA (S'.getD a ⟨#[]⟩) = ((E' : Int), true) := by
    rcases after_at D.loose K D.safe a (by omega) D.loose.length with e | ⟨j, x, _, hx, hx1, e⟩
    · refine ⟨E, Nat.le_refl _, h.E2, ?_⟩
      rw [← hS', getD_at (by omega), getD_at (by omega)] at e
      rw [Option.some.inj e, h.ancS]
      exact getA_anchor E h.E2
    · rw [h.loose] at hx
      rcases mkL_app_at hx with ⟨s', _, rfl⟩ | hX
      · simp only at hx1; omega
      · rcases h.more with rfl | ⟨rfl, hm⟩
        · cases hX
        · rw [List.mem_singleton.1 hX] at e
          refine ⟨E + 1, by omega, hm, ?_⟩
          rw [← hS', getD_at (by omega)] at e
          rw [Option.some.inj e]
          exact getA_anchor (E + 1) hm
  obtain ⟨E', hE1, hE2, hA⟩ := hanc
  obtain ⟨i, m, hi, hch, hst⟩ := Wl.mix hE (show (E : Int) ≤ (E' : Int) by omega) T P R0.length (lastEp 0 R0) m0 ((ar S' a n).drop (sizes R0)) (by omega) hT hP h.old hmix hlast.2 (.inl h.stop)
  have hc1 := (h.chain.up (show (E : Int) ≤ (E' : Int) by omega)).behind ((ar S' a n).drop (sizes R0))
  rw [← htake, List.take_append_drop] at hc1
  refine ⟨cok, h.n2, by rw [cn]; exact h.fit, rfl, rfl, rfl, E', R0 ++ recs E R0.length (T.take i), m, hE2, ?_, ?_, ?_, ?_, i, hi, ?_⟩
  · show getA ((after D.loose K D.safe D.loose.length).getD a ⟨#[]⟩) = _
    rw [← hS']; exact hA
  · show Chain (E' : Int) 0 0 (ar (after D.loose K D.safe D.loose.length) a n) _ _
    rw [← hS']
    exact hc1.trans (by rw [Nat.zero_add]; exact hch)
  · intro r hr
    rw [Wl.lastEp_app]
    refine hst r ?_
    rw [List.length_append, Wl.recs_len, List.length_take, Nat.min_eq_left hi] at hr
    exact hr
  · show ∀ s ∈ ar (after D.loose K D.safe D.loose.length) a n, _
    rw [← hS']
    intro s hs
    have := hlow s hs
    omega
  · rw [List.map_append, Wl.recs_text]

end Go.Proofs.Ythfpinjegfgeiaf
