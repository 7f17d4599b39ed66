/- A log on a disk, as plain lists: Append, Sync, Reset and Open behind a crash: what they leave, and what any crash then leaves. No program in it. -/
import Derived.Test.YthfpinjegfgeiafWalFall
namespace Go.Proofs.Ythfpinjegfgeiaf
open Go
set_option maxRecDepth 100000
open Wl (By Rec Chain Ends lastEp sizes getRec ep news recs Partial Mixed padB secsOf)

theorem write_down {D : SD} {q : Nat} (hq : q < D.n) (s : ByteArray) (hs : s.size ≤ 64) (hd : D.down = true) : D.write (q : Int) s = (13, D) := by
  unfold SD.write SD.has
  rw [if_neg (by simp; omega), if_neg (by omega), if_pos hd]
theorem write_up {D : SD} {q : Nat} (hq : q < D.n) (s : ByteArray) (hs : s.size ≤ 64) (hd : D.down = false) : D.write (q : Int) s = (0, { D.burn with seen := D.burn.seen.set q (pad s), loose := D.burn.loose ++ [(q, pad s)] }) := by
  unfold SD.write SD.has
  rw [if_neg (by simp; omega), if_neg (by omega), hd, if_neg (by simp), Int.toNat_natCast]
theorem pad_full {s : ByteArray} (h : s.size = 64) : pad s = s := by
  apply bytes_eq
  unfold pad
  rw [app_list, h]
  show s.data.toList ++ [] = _
  rw [List.append_nil]

/-! ### All sectors of a record -/
def LG.off (G : LG) : LG := { G with sound := false }
theorem heed13 (G : LG) : G.heed 13 = G.off := by unfold LG.heed; rw [if_neg (by decide)]; rfl

theorem burn_fused (D : SD) : D.burn.fused = D.fused := by unfold SD.burn; split <;> rfl
theorem write_fused (D : SD) (q : Int) (s : ByteArray) : (D.write q s).2.fused = D.fused := by
  unfold SD.write
  repeat' split
  all_goals first | rfl | exact burn_fused D
theorem flush_fused (D : SD) : D.flush.2.fused = D.fused := by
  unfold SD.flush
  split
  · rfl
  · exact burn_fused D
theorem down_fused {D : SD} (h : D.down = true) : D.fused = true := by
  unfold SD.down at h
  simp at h
  exact h.1

theorem all_spec (G : LG) {E : Nat} {R0 : List Rec} {m0 : List By} : ∀ (rest : List By) (D : SD) (N : List By) (q : Nat), BaseN D G.frm G.n E R0 m0 N → (∀ x ∈ rest, x.length ≤ 64 ∧ ep (padB x) = (E : Int)) → N.length + rest.length ≤ m0.length → q = 1 + sizes R0 + N.length →
    (wlAll D G q (rest.map ba)).2.1.fused = D.fused ∧
    (((wlAll D G q (rest.map ba)).1 = 0 ∧ (wlAll D G q (rest.map ba)).2.2 = G ∧ BaseN (wlAll D G q (rest.map ba)).2.1 G.frm G.n E R0 m0 (N ++ rest.map padB)) ∨
    ((wlAll D G q (rest.map ba)).1 = 13 ∧ (wlAll D G q (rest.map ba)).2.2 = G.off ∧ D.fused = true ∧ ∃ k, k < rest.length ∧ BaseN (wlAll D G q (rest.map ba)).2.1 G.frm G.n E R0 m0 (N ++ (rest.take k).map padB))) := by
  intro rest
  induction rest with
  | nil => intro D N q h _ _ _; exact ⟨rfl, .inl ⟨rfl, rfl, by simpa [wlAll] using h⟩⟩
  | cons x rest ih =>
    intro D N q h hx hr hq
    obtain ⟨x1, x2⟩ := hx x (by simp)
    simp only [List.length_cons] at hr
    have e0 : ((G.frm : Int) + (q : Int)) = ((G.frm + 1 + sizes R0 + N.length : Nat) : Int) := by omega
    rw [List.map_cons, wlAll]
    have hin : G.frm + 1 + sizes R0 + N.length < D.n := by have := h.lens.2.2.1; have := h.fit; omega
    by_cases hd : D.down = true
    · have ew : wlWrite D G q (ba x) = (13, D, G.off) := by
        unfold wlWrite
        rw [e0, write_down hin _ (by rw [ba_size]; exact x1) hd, heed13]
      rw [ew, if_neg (by simp)]
      exact ⟨rfl, .inr ⟨rfl, rfl, down_fused hd, 0, by simp, by simpa using h⟩⟩
    · have hd' : D.down = false := by simpa using hd
      obtain ⟨w1, w2⟩ := h.write hd' x x1 x2 (by omega)
      have wf := write_fused D ((G.frm + 1 + sizes R0 + N.length : Nat) : Int) (ba x)
      have ew : wlWrite D G q (ba x) = (0, (D.write ((G.frm + 1 + sizes R0 + N.length : Nat) : Int) (ba x)).2, G) := by
        unfold wlWrite
        rw [e0, w1, heed_zero]
      rw [ew, if_pos rfl]
      simp only
      obtain ⟨f1, f2⟩ := ih _ (N ++ [padB x]) (q + 1) w2 (fun y hy => hx y (by simp [hy])) (by simp; omega) (by simp; omega)
      refine ⟨f1.trans wf, ?_⟩
      rcases f2 with ⟨a1, a2, a3⟩ | ⟨a1, a2, a5, k, a3, a4⟩
      · refine .inl ⟨a1, a2, ?_⟩
        rw [List.append_assoc] at a3
        exact a3
      · refine .inr ⟨a1, a2, wf ▸ a5, k + 1, by simp; omega, ?_⟩
        rw [List.append_assoc] at a4
        rw [List.take_succ_cons, List.map_cons]
        exact a4

/-! ### A log in use -/
structure GoodAt (D : SD) (G : LG) (R0 : List Rec) (m0 T : List By) : Prop where
  base : BaseN D G.frm G.n G.epoch R0 m0 (news G.epoch R0.length T)
  txt : ∀ t ∈ T, t.length ≤ 300
  cnt : G.count = R0.length + T.length
  use : G.used = 1 + sizes R0 + (news G.epoch R0.length T).length
  snd : G.sound = true
def Good (D : SD) (G : LG) (all : List By) (sf : Nat) : Prop := ∃ R0 m0 T, GoodAt D G R0 m0 T ∧ all = R0.map (·.text) ++ T ∧ sf ≤ R0.length
def Front (all : List By) (sf : Nat) (l : List By) : Prop := sf ≤ l.length ∧ l <+: all
def Falls (D : SD) (a n : Nat) (Q : List By → Prop) : Prop := ∀ K, Fallen (D.crash K) a n Q

theorem front_of {D : SD} {a n E : Nat} {R0 : List Rec} {m0 T P : List By} {X : List (Nat × ByteArray)} (h : DownN D a n E R0 m0 (news E R0.length T ++ P) X) (hT : ∀ t ∈ T, t.length ≤ 300) (hP : Partial E (R0.length + T.length) P) {sf : Nat} (hs : sf ≤ R0.length) :
    Falls D a n (Front (R0.map (·.text) ++ T) sf) := fun K => (h.crash hT hP K).mono (by
  rintro l ⟨i, hi, rfl⟩
  refine ⟨by rw [List.length_append, List.length_map]; omega, ?_⟩
  exact (List.prefix_append_right_inj _).2 (List.take_prefix i T))

theorem Good.falls {D : SD} {G : LG} {all : List By} {sf : Nat} (h : Good D G all sf) : Falls D G.frm G.n (Front all sf) := by
  obtain ⟨R0, m0, T, hg, rfl, hs⟩ := h
  exact front_of (P := []) (X := []) (by rw [List.append_nil]; exact hg.base.down) hg.txt (Wl.partial_nil _ _) hs

theorem I64_small {k : Nat} (h : k ≤ 1000001) : Wl.I64 (k : Int) := by unfold Wl.I64; omega

/-- Append to a log in use. -/
theorem Good.append {D : SD} {G : LG} {all : List By} {sf : Nat} (h : Good D G all sf) (t : ByteArray) :
    (wlAppend D G t).2.1.fused = D.fused ∧ (wlAppend D G t).2.2.frm = G.frm ∧ (wlAppend D G t).2.2.n = G.n ∧
    (((wlAppend D G t).1 = 0 ∧ Good (wlAppend D G t).2.1 (wlAppend D G t).2.2 (all ++ [bl t]) sf ∧ G.used < (wlAppend D G t).2.2.used) ∨
    (((wlAppend D G t).1 = 2 ∨ (wlAppend D G t).1 = 8) ∧ (wlAppend D G t).2 = (D, G)) ∨
    ((wlAppend D G t).1 = 13 ∧ (wlAppend D G t).2.2 = G.off ∧ D.fused = true ∧ Falls (wlAppend D G t).2.1 G.frm G.n (Front all sf))) := by
  obtain ⟨R0, m0, T, hg, rfl, hs⟩ := h
  have hb := hg.base
  have hsnd := hg.snd
  unfold wlAppend
  rw [if_neg (by rw [hsnd]; simp)]
  by_cases ht : 300 < t.size
  · rw [if_pos ht]
    exact ⟨rfl, rfl, rfl, .inr (.inl ⟨.inl rfl, rfl⟩)⟩
  · rw [if_neg ht]
    by_cases hf : G.n < G.used + (parts G.epoch G.count t).length
    · rw [if_pos hf]
      exact ⟨rfl, rfl, rfl, .inr (.inl ⟨.inr rfl, rfl⟩)⟩
    · rw [if_neg hf]
      have htl : (bl t).length ≤ 300 := by unfold bl; rw [size_list]; omega
      have hE2 := hb.E2
      have hE := I64_small (show G.epoch ≤ 1000001 by omega)
      obtain ⟨_, _, _, _, hsm⟩ := hb.told hg.txt
      have hc : (G.count : Int) = ((R0.length + T.length : Nat) : Int) := by rw [hg.cnt]
      have hcI : Wl.I64 (G.count : Int) := I64_small (by rw [hg.cnt]; omega)
      have hpl : (parts G.epoch G.count t).length = (secsOf (G.epoch : Int) (G.count : Int) (bl t)).length := by unfold parts bl; rw [List.length_map]
      have hpe : parts G.epoch G.count t = (secsOf (G.epoch : Int) (G.count : Int) (bl t)).map ba := rfl
      have hl := hb.lens.2.2.1
      have huse := hg.use
      have hn2 := hb.n2
      obtain ⟨f1, f2⟩ := all_spec G (secsOf (G.epoch : Int) (G.count : Int) (bl t)) D _ G.used hb (fun x hx => ⟨secs_le hE hcI _ x hx, Wl.secs_ep _ _ hE _ _ (List.mem_map_of_mem hx)⟩) (by omega) huse
      rw [← hpe] at f1 f2
      have enews : news (G.epoch : Int) R0.length (T ++ [bl t]) = news (G.epoch : Int) R0.length T ++ (secsOf (G.epoch : Int) (G.count : Int) (bl t)).map padB := by
        rw [Wl.news_app, news, news, List.append_nil, hc]
      have hpos := secs_pos (G.epoch : Int) (G.count : Int) (bl t)
      rcases f2 with ⟨a1, a2, a3⟩ | ⟨a1, a2, a5, k, a3, a4⟩
      · have em : wlMore (parts G.epoch G.count t).length (wlAll D G G.used (parts G.epoch G.count t)) = (0, (wlAll D G G.used (parts G.epoch G.count t)).2.1, { G with count := G.count + 1, used := G.used + (parts G.epoch G.count t).length }) := by
          unfold wlMore
          rw [if_pos a1, a2]
        rw [em]
        refine ⟨f1, rfl, rfl, .inl ⟨rfl, ⟨R0, m0, T ++ [bl t], ⟨?_, ?_, ?_, ?_, hsnd⟩, by rw [List.append_assoc], hs⟩, ?_⟩⟩
        · show BaseN _ G.frm G.n G.epoch R0 m0 (news (G.epoch : Int) R0.length (T ++ [bl t]))
          rw [enews]
          exact a3
        · intro x hx
          rcases List.mem_append.1 hx with e | e
          · exact hg.txt x e
          · rw [List.mem_singleton.1 e]; exact htl
        · show G.count + 1 = R0.length + (T ++ [bl t]).length
          rw [List.length_append, hg.cnt]
          rfl
        · show G.used + (parts G.epoch G.count t).length = 1 + sizes R0 + (news (G.epoch : Int) R0.length (T ++ [bl t])).length
          rw [enews, List.length_append, List.length_map, hpl]
          omega
        · show G.used < G.used + (parts G.epoch G.count t).length
          omega
      · have em : wlMore (parts G.epoch G.count t).length (wlAll D G G.used (parts G.epoch G.count t)) = wlAll D G G.used (parts G.epoch G.count t) := by
          unfold wlMore
          rw [if_neg (by rw [a1]; decide)]
        rw [em, a2]
        refine ⟨f1, rfl, rfl, .inr (.inr ⟨a1, rfl, a5, ?_⟩)⟩
        rw [List.map_take] at a4
        refine front_of a4.down hg.txt ⟨bl t, htl, k, ?_, ?_⟩ hs
        · rw [← hc]; exact a3
        · rw [← hc]

/-- Sync of a log in use. -/
theorem Good.sync {D : SD} {G : LG} {all : List By} {sf : Nat} (h : Good D G all sf) :
    ((wlSync D G).1 = 0 ∧ (wlSync D G).2.2 = G ∧ Good (wlSync D G).2.1 G all all.length) ∨ ((wlSync D G).1 = 13 ∧ (wlSync D G).2 = (D, G.off) ∧ D.fused = true) := by
  obtain ⟨R0, m0, T, hg, rfl, hs⟩ := h
  unfold wlSync
  rw [if_pos hg.snd]
  unfold wlFlush
  by_cases hd : D.down = true
  · rw [flush_down hd, heed13]
    exact .inr ⟨rfl, rfl, down_fused hd⟩
  · have hd' : D.down = false := by simpa using hd
    have hf := hg.base.flush hg.txt hd'
    have e0 : D.flush.1 = 0 := by rw [flush_up hd']
    refine .inl ⟨e0, by rw [e0, heed_zero], R0 ++ recs G.epoch R0.length T, _, [], ⟨hf, by simp, ?_, ?_, hg.snd⟩, ?_, ?_⟩
    · rw [List.length_append, Wl.recs_len, hg.cnt]; simp
    · rw [Wl.sizes_app, Wl.recs_sizes, hg.use]; simp [news]; omega
    · rw [List.map_append, Wl.recs_text, List.append_nil]
    · rw [List.length_append, List.length_append, List.length_map, Wl.recs_len]; omega

/-! ### To raise -/
structure Told (D : SD) (a n E : Nat) (R : List Rec) (m : List By) : Prop where
  ok : D.ok
  n2 : 2 ≤ n
  fit : a + n ≤ D.n
  chain : Chain (E : Int) 0 0 (ar D.seen a n) R m
  stop : ∀ r, getRec m ((R.length : Nat) : Int) = some r → r.epoch < lastEp 0 R
  low : ∀ s ∈ ar D.seen a n, ep s ≤ (E : Int)

/-- The anchor of the next epoch, written and safe. -/
theorem Told.raise {D : SD} {a n E : Nat} {R : List Rec} {m : List By} (h : Told D a n E R m) (hE : E + 1 ≤ 1000000) (hd : D.down = false) (hd1 : (D.write (a : Int) (anchorB ((E + 1 : Nat) : Int))).2.down = false) :
    (D.write (a : Int) (anchorB ((E + 1 : Nat) : Int))).1 = 0 ∧ BaseN (D.write (a : Int) (anchorB ((E + 1 : Nat) : Int))).2.flush.2 a n (E + 1) R m [] ∧ ∀ s ∈ ar (D.write (a : Int) (anchorB ((E + 1 : Nat) : Int))).2.flush.2.safe a n, ep s < ((E + 1 : Nat) : Int) := by
  have hfit := h.fit
  have hn2 := h.n2
  have h64 := anchor_size (E + 1) (by omega)
  rw [write_up (by omega) _ (by omega) hd] at hd1 ⊢
  rw [flush_up hd1]
  obtain ⟨b1, b2, b3⟩ := burn_same D
  have hok := burn_ok h.ok hd
  have hDl : D.seen.length = D.n := rfl
  obtain ⟨D1, hD1⟩ : ∃ D1 : SD, D1 = { D.burn with seen := D.burn.seen.set a (pad (anchorB ((E + 1 : Nat) : Int))), loose := D.burn.loose ++ [(a, pad (anchorB ((E + 1 : Nat) : Int)))] } := ⟨_, rfl⟩
  have q1 : D1.seen = D.seen.set a (anchorB ((E + 1 : Nat) : Int)) := by rw [hD1, pad_full h64]; show D.burn.seen.set _ _ = _; rw [b2]
  rw [← hD1] at hd1 ⊢
  obtain ⟨c1, c2, c3⟩ := burn_same D1
  have har : ar D1.burn.seen a n = ar D.seen a n := by rw [c2, q1, ar_anchor]
  have hanc : D1.burn.seen.getD a ⟨#[]⟩ = anchorB ((E + 1 : Nat) : Int) := by rw [c2, q1]; exact getD_set_same (by omega) _
  have hok1 : D1.ok := by
    rw [hD1]
    refine ⟨?_, ?_, hok.safe64, ?_, ?_, hok.left0, hok.leftM⟩
    · show D.burn.safe.length = (D.burn.seen.set _ _).length
      rw [List.length_set]; exact hok.len
    · show (D.burn.seen.set _ _).length ≤ 256
      rw [List.length_set]; exact hok.small
    · intro t ht
      rcases List.mem_or_eq_of_mem_set ht with e | e
      · exact hok.seen64 t e
      · rw [e, pad_full h64]; exact h64
    · intro y hy
      show y.1 < (D.burn.seen.set _ _).length ∧ _
      rw [List.length_set]
      rcases List.mem_append.1 hy with e | e
      · exact hok.loose64 y e
      · rw [List.mem_singleton.1 e, pad_full h64]
        refine ⟨?_, h64⟩
        show a < D.burn.seen.length
        rw [b2]; omega
  have hok2 := burn_ok hok1 hd1
  refine ⟨rfl, ⟨⟨rfl, hok2.small, hok2.seen64, hok2.seen64, by simp, hok2.left0, hok2.leftM⟩, h.n2, ?_, by omega, hE, hanc, hanc, ?_, h.stop, ?_, ?_, Nat.zero_le _, rfl, ?_, by simp⟩, ?_⟩
  · show a + n ≤ D1.burn.seen.length
    rw [c2, q1, List.length_set]; exact h.fit
  · show Chain ((E + 1 : Nat) : Int) 0 0 (ar D1.burn.seen a n) R m
    rw [har]
    exact h.chain.up (by omega)
  · intro s hs
    have := h.low s (by rw [h.chain.drop.2.1] at hs; exact List.mem_of_mem_drop hs)
    omega
  · show ∀ s ∈ ar D1.burn.seen a n, _
    rw [har]
    intro s hs
    have := h.low s hs
    omega
  · show ar D1.burn.seen a n = (ar D1.burn.seen a n).take _ ++ ([] ++ m.drop 0)
    rw [har, List.nil_append, List.drop_zero, h.chain.drop.2.1, List.take_append_drop]
  · show ∀ s ∈ ar D1.burn.seen a n, _
    rw [har]
    intro s hs
    have := h.low s hs
    omega

theorem BaseN.toTold {D : SD} {a n E : Nat} {R0 : List Rec} {m0 T : List By} (h : BaseN D a n E R0 m0 (news E R0.length T)) (hT : ∀ t ∈ T, t.length ≤ 300) : Told D a n E (R0 ++ recs E R0.length T) (m0.drop (news E R0.length T).length) := by
  obtain ⟨t1, t2, t3, t4, _⟩ := h.told hT
  exact ⟨h.ok, h.n2, h.fit, t1, t3, t4⟩

end Go.Proofs.Ythfpinjegfgeiaf
