/- A log on a disk, as plain lists: Reset, Fuse, Open behind a crash. No program in it. -/
import Derived.Test.YthfpinjegfgeiafWalOps
namespace Go.Proofs.Ythfpinjegfgeiaf
open Go
set_option maxRecDepth 100000
open Wl (By Rec Chain Ends lastEp sizes getRec ep news recs Partial Mixed padB secsOf)

theorem write_keeps {D : SD} (h : D.ok) {q : Nat} (hq : q < D.n) {s : ByteArray} (hs : s.size ≤ 64) (hd : D.down = false) :
    (D.write (q : Int) s).1 = 0 ∧ (D.write (q : Int) s).2.ok ∧ (D.write (q : Int) s).2.n = D.n ∧ (D.write (q : Int) s).2.safe = D.safe ∧ (D.write (q : Int) s).2.seen = D.seen.set q (pad s) ∧ (D.write (q : Int) s).2.loose = D.loose ++ [(q, pad s)] := by
  rw [write_up hq s hs hd]
  obtain ⟨b1, b2, b3⟩ := burn_same D
  have hok := burn_ok h hd
  have hps := pad_size s hs
  refine ⟨rfl, ⟨?_, ?_, hok.safe64, ?_, ?_, hok.left0, hok.leftM⟩, ?_, b1, ?_, ?_⟩
  · show D.burn.safe.length = (D.burn.seen.set _ _).length
    rw [List.length_set]; exact hok.len
  · show (D.burn.seen.set _ _).length ≤ 256
    rw [List.length_set]; exact hok.small
  · intro t ht
    rcases List.mem_or_eq_of_mem_set ht with e | e
    · exact hok.seen64 t e
    · rw [e]; exact hps
  · intro y hy
    show y.1 < (D.burn.seen.set _ _).length ∧ _
    rw [List.length_set]
    rcases List.mem_append.1 hy with e | e
    · exact hok.loose64 y e
    · rw [List.mem_singleton.1 e]
      refine ⟨?_, hps⟩
      show q < D.burn.seen.length
      rw [b2]; exact hq
  · show (D.burn.seen.set _ _).length = _
    rw [List.length_set, b2]; rfl
  · show D.burn.seen.set _ _ = _
    rw [b2]
  · show D.burn.loose ++ _ = _
    rw [b3]

/-! ### To raise, by cases -/
def anc1 (G : LG) : ByteArray := anchorB ((G.epoch + 1 : Nat) : Int)
theorem raise_full {D : SD} {G : LG} (h : G.epoch = 1000000) : wlRaise D G = (8, D, G) := by unfold wlRaise; rw [if_pos h]
theorem raise_down {D : SD} {G : LG} (hE : G.epoch < 1000000) (hq : G.frm < D.n) (hd : D.down = true) : wlRaise D G = (13, D, G.off) := by
  have h64 := anchor_size (G.epoch + 1) (by omega)
  have ew : wlWrite D G 0 (anc1 G) = (13, D, G.off) := by
    unfold wlWrite
    rw [show ((G.frm : Int) + ((0 : Nat) : Int)) = (G.frm : Int) by omega, write_down hq _ (by show (anchorB ((G.epoch + 1 : Nat) : Int)).size ≤ 64; omega) hd, heed13]
  unfold wlRaise wlSafe
  rw [if_neg (by omega), show anchorB ((G.epoch + 1 : Nat) : Int) = anc1 G from rfl, ew, if_neg (by simp)]
  unfold wlUp
  rw [if_neg (by simp)]
theorem raise_half {D : SD} {G : LG} (hE : G.epoch < 1000000) (hok : D.ok) (hq : G.frm < D.n) (hd : D.down = false) (hd1 : (D.write (G.frm : Int) (anc1 G)).2.down = true) : wlRaise D G = (13, (D.write (G.frm : Int) (anc1 G)).2, G.off) := by
  have h64 := anchor_size (G.epoch + 1) (by omega)
  have w0 := (write_keeps hok hq (s := anc1 G) (by show (anchorB ((G.epoch + 1 : Nat) : Int)).size ≤ 64; omega) hd).1
  have ew : wlWrite D G 0 (anc1 G) = (0, (D.write (G.frm : Int) (anc1 G)).2, G) := by
    unfold wlWrite
    rw [show ((G.frm : Int) + ((0 : Nat) : Int)) = (G.frm : Int) by omega, w0, heed_zero]
  unfold wlRaise wlSafe
  rw [if_neg (by omega), show anchorB ((G.epoch + 1 : Nat) : Int) = anc1 G from rfl, ew, if_pos rfl]
  unfold wlFlush wlUp
  simp only
  rw [flush_down hd1, heed13, if_neg (by simp)]
theorem raise_up {D : SD} {G : LG} (hE : G.epoch < 1000000) (hok : D.ok) (hq : G.frm < D.n) (hd : D.down = false) (hd1 : (D.write (G.frm : Int) (anc1 G)).2.down = false) : wlRaise D G = (0, (D.write (G.frm : Int) (anc1 G)).2.flush.2, { G with epoch := G.epoch + 1 }) := by
  have h64 := anchor_size (G.epoch + 1) (by omega)
  have w0 := (write_keeps hok hq (s := anc1 G) (by show (anchorB ((G.epoch + 1 : Nat) : Int)).size ≤ 64; omega) hd).1
  have ew : wlWrite D G 0 (anc1 G) = (0, (D.write (G.frm : Int) (anc1 G)).2, G) := by
    unfold wlWrite
    rw [show ((G.frm : Int) + ((0 : Nat) : Int)) = (G.frm : Int) by omega, w0, heed_zero]
  have f0 : (D.write (G.frm : Int) (anc1 G)).2.flush.1 = 0 := by rw [flush_up hd1]
  unfold wlRaise wlSafe
  rw [if_neg (by omega), show anchorB ((G.epoch + 1 : Nat) : Int) = anc1 G from rfl, ew, if_pos rfl]
  unfold wlFlush wlUp
  simp only
  rw [f0, heed_zero, if_pos rfl]

/-! ### Open behind a crash -/
theorem Fallen.open {D : SD} {a n : Nat} {Q : List By → Prop} (h : Fallen D a n Q) : ∃ E R m, E ≤ 1000000 ∧ getA (D.seen.getD a ⟨#[]⟩) = (((E : Nat) : Int), true) ∧ Chain ((E : Nat) : Int) 0 0 (ar D.seen a n) R m ∧ Wl.Ends ((E : Nat) : Int) (lastEp 0 R) R.length m ∧ Q (R.map (·.text)) ∧
    ((E = 1000000 ∧ wlRaise D (LG.made a n E R) = (8, D, LG.made a n E R)) ∨
      ((wlRaise D (LG.made a n E R)).1 = 0 ∧ (wlRaise D (LG.made a n E R)).2.2 = { LG.made a n E R with epoch := E + 1 } ∧ Good (wlRaise D (LG.made a n E R)).2.1 (wlRaise D (LG.made a n E R)).2.2 (R.map (·.text)) R.length ∧ (wlRaise D (LG.made a n E R)).2.1.fused = false ∧ (wlRaise D (LG.made a n E R)).2.1.loose = [])) := by
  obtain ⟨E, R, m, h1, h2, h3, h4, h5, h6⟩ := h.log
  refine ⟨E, R, m, h1, h2, h3, fun r hr => .inl (h4 r hr), h6, ?_⟩
  by_cases hE : E = 1000000
  · exact .inl ⟨hE, raise_full hE⟩
  · have hfit := h.fit
    have hn2 := h.n2
    have hd : D.down = false := by unfold SD.down; rw [h.up]; rfl
    have hd1 : (D.write (a : Int) (anchorB ((E + 1 : Nat) : Int))).2.down = false := by unfold SD.down; rw [write_fused, h.up]; rfl
    have eq := raise_up (D := D) (G := LG.made a n E R) (by show E < 1000000; omega) h.ok (by show a < D.n; omega) hd hd1
    have T : Told D a n E R m := ⟨h.ok, h.n2, h.fit, h3, h4, h5⟩
    obtain ⟨_, t2, _⟩ := T.raise (by omega) hd hd1
    have hd1' : (D.write ((LG.made a n E R).frm : Int) (anc1 (LG.made a n E R))).2.down = false := hd1
    rw [eq]
    refine .inr ⟨rfl, rfl, ⟨R, m, [], ⟨t2, by simp, by show R.length = R.length + 0; rfl, by show 1 + sizes R = 1 + sizes R + 0; rfl, rfl⟩, by simp, Nat.le_refl _⟩, ?_, ?_⟩
    · show (D.write ((LG.made a n E R).frm : Int) (anc1 (LG.made a n E R))).2.flush.2.fused = false
      rw [flush_fused, write_fused]; exact h.up
    · show (D.write ((LG.made a n E R).frm : Int) (anc1 (LG.made a n E R))).2.flush.2.loose = []
      rw [flush_up hd1']

/-- A new disk is one that fell. -/
theorem fresh_fallen (k a n : Nat) (hk : k ≤ 256) (h2 : 2 ≤ n) (hf : a + n ≤ k) : Fallen (SD.fresh k) a n (fun l => l = []) := by
  have hn : (SD.fresh k).n = k := by simp [SD.fresh, SD.n]
  have hz : ∀ s ∈ ar (SD.fresh k).seen a n, s = List.replicate 64 0 := by
    intro s hs
    unfold ar lists at hs
    obtain ⟨x, hx, rfl⟩ := List.mem_map.1 hs
    have hx2 : x ∈ List.replicate k (zeros 64) := List.mem_of_mem_drop (List.mem_of_mem_take hx)
    rw [(List.mem_replicate.1 hx2).2]
    rfl
  have hz0 : ∀ s ∈ ar (SD.fresh k).seen a n, Wl.getHd s = none := fun s hs => by
    rw [hz s hs]; rfl
  have hzp : ∀ s ∈ ar (SD.fresh k).seen a n, ep s = 0 := fun s hs => by
    rw [hz s hs]; rfl
  refine ⟨fresh_ok k hk, h2, by rw [hn]; exact hf, rfl, rfl, rfl, 0, [], ar (SD.fresh k).seen a n, by omega, ?_, .nil _ _ _, ?_, ?_, rfl⟩
  · have e : (SD.fresh k).seen.getD a ⟨#[]⟩ = zeros 64 := by
      show (List.replicate k (zeros 64)).getD a ⟨#[]⟩ = _
      rw [List.getD_eq_getElem?_getD, List.getElem?_replicate, if_pos (by omega)]
      rfl
    rw [e]
    unfold getA
    rw [if_pos rfl]
    rfl
  · intro r hr
    exfalso
    cases hA : ar (SD.fresh k).seen a n with
    | nil => rw [hA] at hr; cases hr
    | cons s l =>
      rw [hA, getRec, hz0 s (by rw [hA]; simp)] at hr
      cases hr
  · intro s hs
    rw [hzp s hs]
    omega

/-! ### Fuse -/
theorem Good.fuse {D : SD} {G : LG} {all : List By} {sf : Nat} (h : Good D G all sf) (k : Int) (hk : k ≤ 9223372036854775807) : Good (D.fuse k) G all sf := by
  obtain ⟨R0, m0, T, hg, ha, hs⟩ := h
  have hb := hg.base
  exact ⟨R0, m0, T, ⟨⟨fuse_ok hb.ok k hk, hb.n2, hb.fit, hb.E1, hb.E2, hb.ancS, hb.ancQ, hb.chain, hb.stop, hb.old, hb.low, hb.room, hb.loose, hb.seen, hb.eps⟩, hg.txt, hg.cnt, hg.use, hg.snd⟩, ha, hs⟩
theorem Falls.fuse {D : SD} {a n : Nat} {Q : List By → Prop} (h : Falls D a n Q) (k : Int) : Falls (D.fuse k) a n Q := h

/-! ### Reset -/
/-- The new record alone: of a higher epoch than all that lies there. -/
theorem only_one {E : Nat} (hE : E ≤ 1000000) {A : List By} (hA : A ≠ []) (hlow : ∀ s ∈ A, ep s < (E : Int)) {t x : By} (ht : t.length ≤ 300) (hx : secsOf (E : Int) 0 t = [x]) :
    Chain (E : Int) 0 0 (A.set 0 (padB x)) [⟨t, E, 1⟩] (A.drop 1) ∧ (∀ r, getRec (A.drop 1) ((1 : Nat) : Int) = some r → r.epoch < (E : Int)) ∧ (∀ s ∈ A.drop 1, ep s < (E : Int)) ∧ (∀ s ∈ A.set 0 (padB x), ep s ≤ (E : Int)) := by
  have hI := I64_small (show E ≤ 1000001 by omega)
  have hold : ∀ s ∈ A.drop 1, ep s < (E : Int) := fun s hs => hlow s (List.mem_of_mem_drop hs)
  have hset : A.set 0 (padB x) = padB x :: A.drop 1 := by
    cases A with
    | nil => exact absurd rfl hA
    | cons y A => rfl
  have hput := Wl.rec_put (E : Int) 0 hI (by unfold Wl.I64; omega) t ht (A.drop 1)
  rw [hx] at hput
  refine ⟨?_, fun r hr => rec_old hold hr, hold, ?_⟩
  · rw [hset]
    refine .cons (r := ⟨t, E, 1⟩) ?_ (by show (0 : Int) ≤ (E : Int); omega) (Int.le_refl _) ?_
    · exact hput
    · show Chain (E : Int) (E : Int) 1 ((padB x :: A.drop 1).drop 1) [] (A.drop 1)
      exact .nil _ _ _
  · intro s hs
    rw [hset] at hs
    rcases List.mem_cons.1 hs with e | e
    · rw [e]
      exact Int.le_of_eq (Wl.secs_ep (E : Int) 0 hI t _ (by rw [hx]; simp))
    · exact Int.le_of_lt (hold s e)

theorem after_one (q : Nat) (y : ByteArray) (K : List Bool) (S : List ByteArray) : after [(q, y)] K S 1 = if kept K 0 then S.set q y else S := after_next [(q, y)] K S 0 (q, y) rfl

/-- Reset of a log in use. -/
theorem Good.reset {D : SD} {G : LG} {all : List By} {sf : Nat} (h : Good D G all sf) (t : ByteArray) :
    (wlReset D G t).2.2.frm = G.frm ∧ (wlReset D G t).2.2.n = G.n ∧
    (((wlReset D G t).1 = 0 ∧ Good (wlReset D G t).2.1 (wlReset D G t).2.2 [bl t] 1) ∨
    (((wlReset D G t).1 = 2 ∨ (wlReset D G t).1 = 8) ∧ (wlReset D G t).2 = (D, G)) ∨
    ((wlReset D G t).1 = 13 ∧ (wlReset D G t).2.2.sound = false ∧ Falls (wlReset D G t).2.1 G.frm G.n (fun l => Front all sf l ∨ l = [bl t]))) := by
  have hfalls := h.falls
  obtain ⟨R0, m0, T, hg, rfl, hs⟩ := h
  have hb := hg.base
  have hsnd := hg.snd
  have hfit := hb.fit
  have hn2 := hb.n2
  have hE2 := hb.E2
  unfold wlReset
  rw [if_neg (by rw [hsnd]; simp)]
  by_cases ht : 300 < t.size
  · rw [if_pos ht]
    exact ⟨rfl, rfl, .inr (.inl ⟨.inl rfl, rfl⟩)⟩
  · rw [if_neg ht]
    by_cases hone : 1 < (parts (G.epoch + 1) 0 t).length
    · rw [if_pos hone]
      exact ⟨rfl, rfl, .inr (.inl ⟨.inr rfl, rfl⟩)⟩
    · rw [if_neg hone]
      by_cases hE : G.epoch = 1000000
      · rw [raise_full hE]
        unfold wlReset1
        rw [if_neg (by simp)]
        exact ⟨rfl, rfl, .inr (.inl ⟨.inr rfl, rfl⟩)⟩
      · have hEl : G.epoch < 1000000 := by omega
        have htl : (bl t).length ≤ 300 := by unfold bl; rw [size_list]; omega
        have h64 := anchor_size (G.epoch + 1) (by omega)
        by_cases hd : D.down = true
        · rw [raise_down hEl (by omega) hd]
          unfold wlReset1
          rw [if_neg (by simp)]
          exact ⟨rfl, rfl, .inr (.inr ⟨rfl, rfl, fun K => (hfalls K).mono (fun l hl => .inl hl)⟩)⟩
        · have hd' : D.down = false := by simpa using hd
          obtain ⟨w0, w1, w2, w3, w4, w5⟩ := write_keeps hb.ok (q := G.frm) (by omega) (s := anc1 G) (by show (anchorB ((G.epoch + 1 : Nat) : Int)).size ≤ 64; omega) hd'
          have hp64 : pad (anc1 G) = anc1 G := pad_full h64
          by_cases hd1 : (D.write (G.frm : Int) (anc1 G)).2.down = true
          · rw [raise_half hEl hb.ok (by omega) hd' hd1]
            unfold wlReset1
            rw [if_neg (by simp)]
            refine ⟨rfl, rfl, .inr (.inr ⟨rfl, rfl, ?_⟩)⟩
            have hdn : DownN (D.write (G.frm : Int) (anc1 G)).2 G.frm G.n G.epoch R0 m0 (news G.epoch R0.length T ++ []) [(G.frm, anchorB ((G.epoch + 1 : Nat) : Int))] := by
              rw [List.append_nil]
              refine ⟨w1, hb.n2, by rw [w2]; exact hb.fit, hb.E2, by rw [w3]; exact hb.ancS, by rw [w3]; exact hb.chain, hb.stop, hb.old, by rw [w3]; exact hb.low, hb.room, ?_, .inr ⟨rfl, by omega⟩, hb.eps⟩
              rw [w5, hb.loose, hp64]
              rfl
            exact fun K => (front_of hdn hg.txt (Wl.partial_nil _ _) hs K).mono (fun l hl => .inl hl)
          · have hd1' : (D.write (G.frm : Int) (anc1 G)).2.down = false := by simpa using hd1
            rw [raise_up hEl hb.ok (by omega) hd' hd1']
            obtain ⟨_, t2, t3⟩ := (hb.toTold hg.txt).raise (by omega) hd' hd1'
            unfold wlReset1
            rw [if_pos rfl]
            simp only
            have t2' : BaseN (D.write (G.frm : Int) (anc1 G)).2.flush.2 G.frm G.n (G.epoch + 1) (R0 ++ recs G.epoch R0.length T) (m0.drop (news G.epoch R0.length T).length) [] := t2
            have t3' : ∀ s ∈ ar (D.write (G.frm : Int) (anc1 G)).2.flush.2.safe G.frm G.n, ep s < ((G.epoch + 1 : Nat) : Int) := t3
            clear t2 t3
            generalize (D.write (G.frm : Int) (anc1 G)).2.flush.2 = D2 at t2' t3' ⊢
            have hall : (R0 ++ recs G.epoch R0.length T).map (·.text) ++ ([] : List By) = R0.map (·.text) ++ T := by rw [List.map_append, Wl.recs_text, List.append_nil]
            have hsf : sf ≤ (R0 ++ recs G.epoch R0.length T).length := by rw [List.length_append]; omega
            have hf2 : Falls D2 G.frm G.n (Front (R0.map (·.text) ++ T) sf) := by
              have := front_of (T := []) (P := []) (X := []) (sf := sf) (by simpa [news] using t2'.down) (by simp) (Wl.partial_nil _ _) hsf
              rw [hall] at this
              exact this
            -- the new record
            obtain ⟨x, hx⟩ : ∃ x, secsOf ((G.epoch + 1 : Nat) : Int) 0 (bl t) = [x] := by
              have h1 : (secsOf ((G.epoch + 1 : Nat) : Int) 0 (bl t)).length = 1 := by
                have := secs_pos ((G.epoch + 1 : Nat) : Int) 0 (bl t)
                have e : (parts (G.epoch + 1) 0 t).length = (secsOf ((G.epoch + 1 : Nat) : Int) 0 (bl t)).length := by unfold parts bl; rw [List.length_map]; rfl
                omega
              exact List.length_eq_one_iff.1 h1
            have hpx : (parts (G.epoch + 1) 0 t).getD 0 ⟨#[]⟩ = ba x := by
              have e : parts (G.epoch + 1) 0 t = (secsOf ((G.epoch + 1 : Nat) : Int) 0 (bl t)).map ba := rfl
              rw [e, hx]; rfl
            rw [hpx]
            have hI := I64_small (show G.epoch + 1 ≤ 1000001 by omega)
            have hxl : x.length ≤ 64 := secs_le (c := 0) hI (by unfold Wl.I64; omega) (bl t) x (by rw [hx]; simp)
            have hfit2 := t2'.fit
            have hAne : ar D2.safe G.frm G.n ≠ [] := fun e => by have := t2'.lens.1; rw [e] at this; simp at this; omega
            obtain ⟨o1, o2, o3, o4⟩ := only_one (by omega) hAne t3' htl hx
            have hsame : ar D2.seen G.frm G.n = ar D2.safe G.frm G.n := by
              rw [t2'.seen, List.nil_append, t2'.chain.drop.2.1]
              simp
            unfold wlOnly wlSafe
            by_cases hd2 : D2.down = true
            · have ew : wlWrite D2 { G with epoch := G.epoch + 1 } 1 (ba x) = (13, D2, LG.off { G with epoch := G.epoch + 1 }) := by
                unfold wlWrite
                rw [show ((({ G with epoch := G.epoch + 1 } : LG).frm : Int) + ((1 : Nat) : Int)) = ((G.frm + 1 : Nat) : Int) by show (G.frm : Int) + 1 = _; omega, write_down (by omega) _ (by rw [ba_size]; exact hxl) hd2, heed13]
              rw [ew, if_neg (by simp), if_neg (by simp)]
              exact ⟨rfl, rfl, .inr (.inr ⟨rfl, rfl, fun K => (hf2 K).mono (fun l hl => .inl hl)⟩)⟩
            · have hd2' : D2.down = false := by simpa using hd2
              obtain ⟨v0, v1, v2, v3, v4, v5⟩ := write_keeps t2'.ok (q := G.frm + 1) (by omega) (s := ba x) (by rw [ba_size]; exact hxl) hd2'
              have ew : wlWrite D2 { G with epoch := G.epoch + 1 } 1 (ba x) = (0, (D2.write ((G.frm + 1 : Nat) : Int) (ba x)).2, { G with epoch := G.epoch + 1 }) := by
                unfold wlWrite
                rw [show ((({ G with epoch := G.epoch + 1 } : LG).frm : Int) + ((1 : Nat) : Int)) = ((G.frm + 1 : Nat) : Int) by show (G.frm : Int) + 1 = _; omega, v0, heed_zero]
              rw [ew, if_pos rfl]
              simp only
              unfold wlFlush
              have hloose : D2.loose = [] := by rw [t2'.loose]; rfl
              rw [hloose, List.nil_append] at v5
              have hseen3 : ar (D2.write ((G.frm + 1 : Nat) : Int) (ba x)).2.seen G.frm G.n = (ar D2.safe G.frm G.n).set 0 (padB x) := by
                rw [v4]
                have := ar_set D2.seen G.frm G.n 0 (pad (ba x))
                rw [Nat.add_zero] at this
                rw [this, pad_ba, hsame]
              have hanc3 : (D2.write ((G.frm + 1 : Nat) : Int) (ba x)).2.seen.getD G.frm ⟨#[]⟩ = anchorB ((G.epoch + 1 : Nat) : Int) := by
                rw [v4, getD_set_other _ (by omega)]
                exact t2'.ancQ
              by_cases hd3 : (D2.write ((G.frm + 1 : Nat) : Int) (ba x)).2.down = true
              · rw [flush_down hd3, heed13, if_neg (by simp)]
                refine ⟨rfl, rfl, .inr (.inr ⟨rfl, rfl, fun K => ?_⟩)⟩
                obtain ⟨k1, k2⟩ := crash_ok v1 K
                have hS : (SD.crash (D2.write ((G.frm + 1 : Nat) : Int) (ba x)).2 K).seen = if kept K 0 then D2.safe.set (G.frm + 1) (pad (ba x)) else D2.safe := by
                  show after (D2.write ((G.frm + 1 : Nat) : Int) (ba x)).2.loose K (D2.write ((G.frm + 1 : Nat) : Int) (ba x)).2.safe (D2.write ((G.frm + 1 : Nat) : Int) (ba x)).2.loose.length = _
                  rw [v5, v3]
                  exact after_one _ _ K _
                have hset : ar (D2.safe.set (G.frm + 1) (pad (ba x))) G.frm G.n = (ar D2.safe G.frm G.n).set 0 (padB x) := by
                  have := ar_set D2.safe G.frm G.n 0 (pad (ba x))
                  rw [Nat.add_zero] at this
                  rw [this, pad_ba]
                refine ⟨k1, hb.n2, by rw [k2, v2]; exact hfit2, rfl, rfl, rfl, ?_⟩
                rw [hS]
                by_cases hk : kept K 0 = true
                · rw [if_pos hk, hset]
                  refine ⟨G.epoch + 1, [⟨bl t, _, 1⟩], _, by omega, ?_, o1, o2, o4, .inr rfl⟩
                  rw [getD_set_other _ (by omega), t2'.ancS]
                  exact getA_anchor _ (by omega)
                · rw [if_neg hk]
                  refine ⟨G.epoch + 1, _, _, by omega, ?_, t2'.chain, t2'.stop, t2'.low, .inl ⟨by rw [List.length_map]; exact hsf, ?_⟩⟩
                  · rw [t2'.ancS]
                    exact getA_anchor _ (by omega)
                  · rw [← hall, List.append_nil]
                    exact List.prefix_refl _
              · have hd3' : (D2.write ((G.frm + 1 : Nat) : Int) (ba x)).2.down = false := by simpa using hd3
                rw [flush_up hd3']
                simp only
                rw [heed_zero, if_pos trivial]
                obtain ⟨b1, b2, b3⟩ := burn_same (D2.write ((G.frm + 1 : Nat) : Int) (ba x)).2
                have hok4 := burn_ok v1 hd3'
                have hlen1 : sizes [(⟨bl t, ((G.epoch + 1 : Nat) : Int), 1⟩ : Rec)] = 1 := rfl
                refine ⟨rfl, rfl, .inl ⟨rfl, [⟨bl t, ((G.epoch + 1 : Nat) : Int), 1⟩], (ar D2.safe G.frm G.n).drop 1, [], ⟨⟨⟨rfl, hok4.small, hok4.seen64, hok4.seen64, by simp, hok4.left0, hok4.leftM⟩, hb.n2, ?_, by show 1 ≤ G.epoch + 1; omega, by show G.epoch + 1 ≤ 1000000; omega, ?_, ?_, ?_, o2, o3, ?_, Nat.zero_le _, rfl, ?_, by simp [news]⟩, by simp, rfl, rfl, hsnd⟩, rfl, Nat.le_refl _⟩⟩
                · show G.frm + G.n ≤ (D2.write ((G.frm + 1 : Nat) : Int) (ba x)).2.burn.seen.length
                  rw [b2]
                  have : (D2.write ((G.frm + 1 : Nat) : Int) (ba x)).2.seen.length = D2.n := v2
                  omega
                · show (D2.write ((G.frm + 1 : Nat) : Int) (ba x)).2.burn.seen.getD G.frm ⟨#[]⟩ = _
                  rw [b2]; exact hanc3
                · show (D2.write ((G.frm + 1 : Nat) : Int) (ba x)).2.burn.seen.getD G.frm ⟨#[]⟩ = _
                  rw [b2]; exact hanc3
                · show Chain _ 0 0 (ar (D2.write ((G.frm + 1 : Nat) : Int) (ba x)).2.burn.seen G.frm G.n) _ _
                  rw [b2, hseen3]; exact o1
                · show ∀ s ∈ ar (D2.write ((G.frm + 1 : Nat) : Int) (ba x)).2.burn.seen G.frm G.n, _
                  rw [b2, hseen3]; exact o4
                · show ar (D2.write ((G.frm + 1 : Nat) : Int) (ba x)).2.burn.seen G.frm G.n = (ar (D2.write ((G.frm + 1 : Nat) : Int) (ba x)).2.burn.seen G.frm G.n).take _ ++ ([] ++ ((ar D2.safe G.frm G.n).drop 1).drop 0)
                  rw [b2, hseen3, hlen1, List.nil_append, List.drop_zero, o1.drop.2.1, hlen1, List.take_append_drop]

end Go.Proofs.Ythfpinjegfgeiaf
