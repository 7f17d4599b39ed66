/- The document's own log: OpenLog, walked. -/
import Derived.Test.YthfpinjegfgeiaaWalRefRst
namespace Go.Proofs.Ythfpinjegfgeiaa
open Go Go.RowKit
set_option maxRecDepth 100000

theorem down_ref (w : World) (b : Nat) (F : Nat → FR) (d : SD) (h : RefAt w b F d) : Calls Try.prog 63 #[.pointer (some ⟨b, 0, none⟩)] w fun e w' => e = .returned (.bool d.down) ∧ w' = w := by
  have c4 := h.c4
  have hd := rl_down d
  rw [← hd]
  clear h hd
  generalize rl d = L at *
  go_enter Try.func63, Try.ntmps63
  go_wp2_with fail
  go_ret
  exact ⟨rfl, rfl⟩

set_option maxHeartbeats 2000000 in
theorem ropen_bad (w : World) (b : Nat) (F : Nat → FR) (D : SD) (h : RefAt w b F D) (a n : Int) (hn : n ≤ 9223372036854775807) (hbad : ¬ (0 ≤ a ∧ 2 ≤ n ∧ a + n ≤ D.n)) :
    Calls Try.prog 34 #[.pointer (some ⟨b, 0, none⟩), .int .i64 a, .int .i64 n] w fun e w' => e = .returned (nilV 1) ∧ w' = w := by
  have c0 := h.c0
  have hsm : (D.n : Int) ≤ 256 := by have := h.ok.small; omega
  have hl : D.seen.length = D.n := rfl
  rw [hl] at c0
  clear h hl
  generalize D.n = N at *
  by_cases h1 : a < 0
  · have h1' : decide (a < 0) = true := by simpa using h1
    clear hbad
    go_enter Try.func34, Try.ntmps34
    go_wp2_with fail
    go_ret3
    exact ⟨rfl, rfl⟩
  · have h1' : decide (a < 0) = false := by simpa using h1
    by_cases h2 : n < 2
    · have h2' : decide (n < 2) = true := by simpa using h2
      clear hbad
      go_enter Try.func34, Try.ntmps34
      go_wp2_with fail
      go_ret3
      exact ⟨rfl, rfl⟩
    · have h2' : decide (n < 2) = false := by simpa using h2
      by_cases h3 : (N : Int) < a
      · have h3' : decide ((N : Int) < a) = true := by simpa using h3
        clear hbad
        go_enter Try.func34, Try.ntmps34
        go_wp2_with fail
        go_ret3
        exact ⟨rfl, rfl⟩
      · have h3' : decide ((N : Int) < a) = false := by simpa using h3
        have h4 : (N : Int) - a < n := by omega
        have h4' : decide ((N : Int) - a < n) = true := by simpa using h4
        clear hbad
        go_enter Try.func34, Try.ntmps34
        go_wp2_with fail
        go_ret3
        exact ⟨rfl, rfl⟩

/-- The log's sectors, as a slice of those that are seen. -/
theorem seen_tx {w : World} {b : Nat} {F : Nat → FR} {D : SD} (h : RefAt w b F D) {a n : Nat} (hn : 0 < n) (hfit : a + n ≤ D.n) :
    ∃ g, (F 0).a = some ⟨g, 0, none⟩ ∧ D.n ≤ (F 0).c ∧ (F 0).c ≤ maxLen ∧ TxAt w g a ((F 0).c - a) (secs D a n) ∧ rown b F g := by
  obtain ⟨h1, h2⟩ := h.rs.own 0 (by omega)
  have hl : (XS D 0).length = D.n := by show (D.seen.map Value.string).length = _; rw [List.length_map]; rfl
  rcases h2 with ⟨_, e2⟩ | ⟨g, cap, cur, hv, _, hh, hcn, hm, hs, ht⟩
  · rw [hl] at e2; omega
  · unfold rsl at hv
    injection hv with hv1 hv2 hv3
    rw [hl] at hcn ht
    refine ⟨g, hv1, by omega, by omega, ⟨by rw [secs_len hfit]; omega, by omega, cur, hh, by omega, fun j t hj => ?_⟩, .inr ⟨0, by omega, by unfold FR.blk; rw [hv1]; rfl⟩⟩
    have hj' : j < n := by have := (List.getElem?_eq_some_iff.1 hj).1; rw [secs_len hfit] at this; exact this
    have e : (XS D 0)[a + j]? = some (.string t) := by
      show (D.seen.map Value.string)[a + j]? = _
      unfold secs at hj
      rw [List.getElem?_take, if_pos hj', List.getElem?_drop] at hj
      rw [List.getElem?_map, hj]
      rfl
    rw [← ht, List.getElem?_take] at e
    split at e
    · simpa using e
    · cases e

set_option maxHeartbeats 2000000 in
theorem ropen_down (w : World) (b : Nat) (F : Nat → FR) (D : SD) (h : RefAt w b F D) (a n : Nat) (h2 : 2 ≤ n) (hfit : a + n ≤ D.n) (hd : D.down = true) :
    Calls Try.prog 34 #[.pointer (some ⟨b, 0, none⟩), .int .i64 (a : Int), .int .i64 (n : Int)] w fun e w' => e = .returned (nilV 13) ∧ w' = w := by
  have c0 := h.c0
  have hl : D.seen.length = D.n := rfl
  rw [hl] at c0
  have KD := hid (down_ref w b F D h)
  rw [hd] at KD
  have hsm : (D.n : Int) ≤ 256 := by have := h.ok.small; omega
  have q1 : decide ((a : Int) < 0) = false := by simp
  have q2 : decide ((n : Int) < 2) = false := by simp; omega
  have q3 : decide ((D.n : Int) < (a : Int)) = false := by simp; omega
  have q4 : decide ((D.n : Int) - (a : Int) < (n : Int)) = false := by simp; omega
  have hn : (n : Int) ≤ 256 := by omega
  have ha : (a : Int) ≤ 256 := by omega
  clear h hd hl
  generalize D.n = N at *
  go_enter Try.func34, Try.ntmps34
  go_wp2_with fail
  refine KD.out.mono ?_
  rintro r w1 ⟨rfl, rfl⟩
  go_wp2_with fail
  go_ret3
  exact ⟨rfl, rfl⟩

/-! ### The records -/
structure RFindAt (w wr : World) (lb rb : Nat) (F : Nat → FR) (D : SD) (G : LG) (v : Value) (R : List Wl.Rec) (m : List (List UInt8)) : Prop where
  wal : RWalAt wr lb rb F D (G.at_ R)
  chain : Wl.Chain (G.epoch : Int) 0 0 ((lists (secs D G.frm G.n)).drop 1) R m
  row : wr.ownsRow w.heap.size 9 1 v (txts R).length ((txts R).map Value.string)
  goes : Goes (fun k => k = lb) w wr (fun k => k = lb)
  old : ∀ k, rwown rb F lb k → k < w.heap.size

section
variable {w wr : World} {lb rb : Nat} {F : Nat → FR} {D : SD} {G : LG} {v : Value} {R : List Wl.Rec} {m : List (List UInt8)} (h : RFindAt w wr lb rb F D G v R m)
include h
theorem RFindAt.rest (hfit : G.frm + G.n ≤ D.n) (h2 : 2 ≤ G.n) : m = lists ((secs D G.frm G.n).drop (1 + Wl.sizes R)) ∧ 1 + Wl.sizes R ≤ G.n ∧ R.length ≤ Wl.sizes R := by
  obtain ⟨a, b, c⟩ := h.chain.drop
  rw [List.length_drop, lists_len, secs_len hfit] at a
  refine ⟨by rw [b, List.drop_drop, lists_drop], by omega, c⟩
theorem RFindAt.below {W : World} (hb : Below wr.heap.size wr W) : RFindAt w W lb rb F D G v R m :=
  ⟨h.wal.below hb, h.chain, ownsRow_of_block h.row (fun k hk => hb.block k (h.row.lt k hk).2), h.goes.trans (Goes.below' hb), h.old⟩
theorem RFindAt.next {W4 W5 W7 : World} {r : Wl.Rec} (hfit : G.frm + G.n ≤ D.n) (h2 : 2 ≤ G.n) (hg : Wl.getRec m (R.length : Int) = some r) (h1 : Wl.lastEp 0 R ≤ r.epoch) (h3 : r.epoch ≤ (G.epoch : Int)) (hb : Below wr.heap.size wr W4) {v' : Value}
    (hown : W5.ownsRow w.heap.size 9 1 v' ((txts R).length + 1) ((txts R).map Value.string ++ [.string (ba r.text)])) (hgrow : W4.grownBy W5 v.ownBlock)
    (hW : W7 = ((W5.setCell ⟨lb, 4, none⟩ (.int .i64 ((1 + Wl.sizes R + r.size : Nat) : Int))).setCell ⟨lb, 5, none⟩ (.int .i64 ((R.length + 1 : Nat) : Int)))) :
    RFindAt w W7 lb rb F D G v' (R ++ [r]) (m.drop r.size) := by
  have h4 := h.below hb
  have hrow : ∀ k, v.ownBlock = some k → w.heap.size ≤ k := fun k hk => (h4.row.lt k hk).1
  have hkeep : ∀ k, k < w.heap.size → W5.heap[k]? = W4.heap[k]? := fun k hk => hgrow.block k (Nat.lt_of_lt_of_le hk h4.goes.size) (fun e => by have := hrow k e.symm; omega)
  have hw5 : RWalAt W5 lb rb F D (G.at_ R) := h4.wal.keep fun k hk => hkeep k (h.old k hk)
  have hch : Wl.Chain (G.epoch : Int) 0 0 ((lists (secs D G.frm G.n)).drop 1) (R ++ [r]) (m.drop r.size) := h.chain.trans (.cons (by simpa using hg) h1 h3 (.nil _ _ _))
  have e1 : (G.at_ (R ++ [r])) = { G.at_ R with count := R.length + 1, used := 1 + Wl.sizes R + r.size } := by
    unfold LG.at_
    simp only [List.length_append, List.length_cons, List.length_nil, Wl.sizes_app, Wl.sizes]
    congr 1
    omega
  obtain ⟨d1, d2, d3⟩ := hch.drop
  rw [List.length_drop, lists_len, secs_len hfit, Wl.sizes_app] at d1
  rw [Wl.sizes_app, List.length_append] at d3
  simp only [Wl.sizes, List.length_cons, List.length_nil] at d1 d3
  have hset := hw5.set (G' := { G.at_ R with count := R.length + 1, used := 1 + Wl.sizes R + r.size }) ⟨hw5.ok.n2, hw5.ok.fit, hw5.ok.top, by show R.length + 1 < 1 + Wl.sizes R + r.size; omega, by show 1 + Wl.sizes R + r.size ≤ G.n; omega⟩ (hw5.cell45 (1 + Wl.sizes R + r.size) (R.length + 1))
  have hlb : lb < w.heap.size := h.old lb (.inr rfl)
  have hne : ∀ k, k ≠ lb → W7.heap[k]? = W5.heap[k]? := fun k hk => by
    rw [hW, Below.heap_setCell _ _ _ _ hk, Below.heap_setCell _ _ _ _ hk]
  refine ⟨by rw [e1, hW]; exact hset.1, hch, ?_, ?_, h.old⟩
  · have e2 : txts (R ++ [r]) = txts R ++ [ba r.text] := by unfold txts; rw [List.map_append]; rfl
    rw [e2, List.length_append, List.map_append]
    refine ownsRow_of_block hown (fun k hk => hne k (fun e => ?_))
    have := (hown.lt k hk).1
    omega
  · have g5 := h4.goes.grown hgrow (fun k hk => .inr (hrow k hk))
    rw [hW]
    exact (g5.setCell (q := ⟨lb, 4, none⟩) (.inl rfl) _).setCell (q := ⟨lb, 5, none⟩) (.inl rfl) _
end

end Go.Proofs.Ythfpinjegfgeiaa

/- The document's own log: OpenLog where there is an anchor, and where there is none, walked. -/
namespace Go.Proofs.Ythfpinjegfgeiaa
open Go Go.RowKit
set_option maxRecDepth 100000

def ROpenPost (w : World) (rb : Nat) (F : Nat → FR) (D : SD) (a n E : Nat) (R : List Wl.Rec) (r : Ending) (w' : World) : Prop :=
  ((wlRaise D (LG.made a n E R)).1 ≠ 0 → ∃ F', r = .returned (nilV (wlRaise D (LG.made a n E R)).1) ∧ RefAt w' rb F' (wlRaise D (LG.made a n E R)).2.1 ∧ Goes (rown rb F) w w' (rown rb F')) ∧
  ((wlRaise D (LG.made a n E R)).1 = 0 → ∃ (F' : Nat → FR) (lb : Nat) (v : Value), r = .returned (.tuple #[.pointer (some ⟨lb, 0, none⟩), v, .int .i64 0]) ∧ RWalAt w' lb rb F' (wlRaise D (LG.made a n E R)).2.1 (wlRaise D (LG.made a n E R)).2.2 ∧
    w'.ownsRow w.heap.size 9 1 v R.length ((txts R).map Value.string) ∧ (∀ k, v.ownBlock = some k → ¬ rwown rb F' lb k) ∧ Goes (rown rb F) w w' (rwown rb F' lb) ∧ w.heap.size ≤ lb)
theorem rgoes_own {rb : Nat} {F : Nat → FR} {lb : Nat} {w w' : World} (h : Goes (fun k => k = lb) w w' (fun k => k = lb)) : Goes (rwown rb F lb) w w' (rwown rb F lb) :=
  ⟨h.os, h.tape, h.output, h.size, fun k hk hn => h.block k hk (fun e => hn (.inr e)), fun _ hk => .inl hk⟩

set_option maxHeartbeats 2000000 in
theorem ropen_form (w : World) (b : Nat) (F : Nat → FR) (D : SD) (h : RefAt w b F D) (a n : Nat) (h2 : 2 ≤ n) (hfit : a + n ≤ D.n) (hd : D.down = false) (hA : (getA (D.seen.getD a ⟨#[]⟩)).2 = false) :
    Calls Try.prog 34 #[.pointer (some ⟨b, 0, none⟩), .int .i64 (a : Int), .int .i64 (n : Int)] w fun e w' => e = .returned (nilV 4) ∧ Below w.heap.size w w' := by
  have c0 := h.c0
  have hl : D.seen.length = D.n := rfl
  rw [hl] at c0
  obtain ⟨g, hg, hcn, hcm, htx, _⟩ := seen_tx h (by omega : 0 < n) hfit
  rw [hg] at c0
  generalize (F 0).c = c at *
  have KD := hid (down_ref w b F D h)
  rw [hd] at KD
  have hs0 := secs_at hfit (by omega : 0 < n)
  rw [Nat.add_zero] at hs0
  have h64 : (D.seen.getD a ⟨#[]⟩).size = 64 := secs_64 h.ok a n _ (List.mem_of_getElem? hs0)
  have hcell := htx.cell 0 _ hs0
  rw [Nat.add_zero] at hcell
  have KA := hid fun W => anchored_any (D.seen.getD a ⟨#[]⟩) W h64
  have hI : ancI (D.seen.getD a ⟨#[]⟩) = -1 := by unfold ancI; rw [hA]; rfl
  rw [hI] at KA
  have hsm : (D.n : Int) ≤ 256 := by have := h.ok.small; omega
  have q1 : decide ((a : Int) < 0) = false := by simp
  have q2 : decide ((n : Int) < 2) = false := by simp; omega
  have q3 : decide ((D.n : Int) < (a : Int)) = false := by simp; omega
  have q4 : decide ((D.n : Int) - (a : Int) < (n : Int)) = false := by simp; omega
  have hn : (n : Int) ≤ 256 := by omega
  have ha : (a : Int) ≤ 256 := by omega
  have hca : ¬ (c = a) := by omega
  have hc1 : (a : Int) + (n : Int) ≤ (c : Int) := by omega
  have hn0 : (0 : Int) < (n : Int) := by omega
  clear h hd hl hA htx hs0 h64 hI
  generalize D.seen.getD a ⟨#[]⟩ = s at *
  generalize D.n = N at *
  go_enter Try.func34, Try.ntmps34
  go_wp2_with fail
  refine KD.out.mono ?_
  rintro r w1 ⟨rfl, rfl⟩
  go_wp2_with fail
  refine (KA.out _).mono ?_
  rintro r w2 ⟨rfl, hb2⟩
  have B2 := hid hb2
  clear hb2
  go_wp2_with fail
  go_ret3
  exact ⟨rfl, B2.out.alloc B2.out.size _⟩

end Go.Proofs.Ythfpinjegfgeiaa

/- The document's own log: OpenLog where there is an anchor, walked. -/
namespace Go.Proofs.Ythfpinjegfgeiaa
open Go Go.RowKit
set_option maxRecDepth 100000

theorem recordAt_any (g o c : Nat) (n : Int) (w : World) (l : List ByteArray) (h : TxAt w g o c l) (h64 : ∀ x ∈ l, x.size = 64) (hl : l.length ≤ 256) (hn : Wl.I64 n) :
    Calls Try.prog 65 #[.slice (some ⟨g, o, none⟩) l.length c, .int .i64 n] w fun r w' => r = .returned (ratV (Wl.getRec (lists l) n)) ∧ Below w.heap.size w w' := by
  cases l with
  | nil => exact recordAt_none g o c n w
  | cons s l => exact recordAt_cons g o c n w s l h h64 hl hn

theorem ropen_tail {w W3 Wx w5 : World} {lb rb : Nat} {F F5 : Nat → FR} {D : SD} {G : LG} {v : Value} {R : List Wl.Rec} {m : List (List UInt8)} (h : RFindAt W3 Wx lb rb F D G v R m) (hb : Below w.heap.size w W3) (hlo : w.heap.size ≤ lb) (g5 : Goes (rwown rb F lb) Wx w5 (rwown rb F5 lb)) :
    Goes (rown rb F) w w5 (rwown rb F5 lb) ∧ w5.ownsRow w.heap.size 9 1 v R.length ((txts R).map Value.string) ∧ (∀ k, v.ownBlock = some k → ¬ rwown rb F5 lb k) := by
  have ga : Goes (rwown rb F lb) w w5 (rwown rb F5 lb) := ((Goes.below' hb).trans (rgoes_own h.goes)).trans g5
  have hrow := h.row
  have hout : ∀ k, v.ownBlock = some k → ¬ rwown rb F lb k := fun k hk e => by have := h.old k e; have := (hrow.lt k hk).1; omega
  have hrow5 := ownsRow_of_block hrow (fun k hk => g5.block k (hrow.lt k hk).2 (hout k hk))
  rw [txts_len] at hrow5
  refine ⟨⟨ga.os, ga.tape, ga.output, ga.size, fun k hk hn => ga.block k hk (fun e => ?_), fun k hk => ?_⟩, owns_mono hrow5 hb.size, fun k hk e => ?_⟩
  · rcases e with e | e
    · exact hn e
    · omega
  · rcases ga.grow k hk with (e | e) | e
    · exact .inl e
    · exact .inr (by omega)
    · exact .inr e
  · rcases g5.grow k e with e | e
    · exact hout k hk e
    · have := (hrow.lt k hk).2; omega

set_option maxHeartbeats 8000000 in
theorem ropen_ok (w : World) (rb : Nat) (F : Nat → FR) (D : SD) (h : RefAt w rb F D) (a n : Nat) (h2 : 2 ≤ n) (hfit : a + n ≤ D.n) (hd : D.down = false) (E : Nat) (hE : E ≤ 1000000) (hA : getA (D.seen.getD a ⟨#[]⟩) = ((E : Int), true)) (hf : few D) :
    Calls Try.prog 34 #[.pointer (some ⟨rb, 0, none⟩), .int .i64 (a : Int), .int .i64 (n : Int)] w fun e w' =>
      ∃ R m, Wl.Chain (E : Int) 0 0 ((lists (secs D a n)).drop 1) R m ∧ Wl.Ends (E : Int) (Wl.lastEp 0 R) R.length m ∧ ROpenPost w rb F D a n E R e w' := by
  have c0 := h.c0
  have hl : D.seen.length = D.n := rfl
  rw [hl] at c0
  obtain ⟨g, hg, hcn, hcm, htx, hgo⟩ := seen_tx h (by omega : 0 < n) hfit
  rw [hg] at c0
  have TXA : Hid (∀ W, RefAt W rb F D → TxAt W g a ((F 0).c - a) (secs D a n)) := fun W hW => by
    obtain ⟨g', hg', _, _, ht, _⟩ := seen_tx hW (by omega : 0 < n) hfit
    rw [hg] at hg'
    injection hg' with hg'
    injection hg' with hg' _ _
    rw [hg']
    exact ht
  generalize (F 0).c = c at *
  have KD := hid (down_ref w rb F D h)
  rw [hd] at KD
  have hs0 := secs_at hfit (by omega : 0 < n)
  rw [Nat.add_zero] at hs0
  have h64 : (D.seen.getD a ⟨#[]⟩).size = 64 := secs_64 h.ok a n _ (List.mem_of_getElem? hs0)
  have hcell := htx.cell 0 _ hs0
  rw [Nat.add_zero] at hcell
  have KA := hid fun W => anchored_any (D.seen.getD a ⟨#[]⟩) W h64
  have hI : ancI (D.seen.getD a ⟨#[]⟩) = (E : Int) := by unfold ancI; rw [hA]; rfl
  rw [hI] at KA
  have hsm' := h.ok.small
  have hsm : (D.n : Int) ≤ 256 := by omega
  have q1 : decide ((a : Int) < 0) = false := by simp
  have q2 : decide ((n : Int) < 2) = false := by simp; omega
  have q3 : decide ((D.n : Int) < (a : Int)) = false := by simp; omega
  have q4 : decide ((D.n : Int) - (a : Int) < (n : Int)) = false := by simp; omega
  have q5 : decide ((E : Int) < 0) = false := by simp
  have hn : (n : Int) ≤ 256 := by omega
  have ha : (a : Int) ≤ 256 := by omega
  have hca : ¬ (c = a) := by omega
  have hc1 : (a : Int) + (n : Int) ≤ (c : Int) := by omega
  have hn0 : (0 : Int) < (n : Int) := by omega
  have H := hid h
  have HS64 := hid (secs_64 h.ok a n)
  have HFit := hid hfit
  have HSL := hid (secs_len hfit)
  obtain ⟨i0, hi, hz0, hz1, hz2⟩ := info_parts tx_info
  have hcc : n ≤ c - a := by omega
  have hcm' : c ≤ 9223372036854775807 := by unfold maxLen at hcm; omega
  have hDn : D.n ≤ 256 := hsm'
  have HF := hid hf
  clear h hd hl hA htx hs0 h64 hI hf hcm
  generalize D.seen.getD a ⟨#[]⟩ = s at *
  generalize hN : D.n = N at *
  have HN := hid hN
  clear hN
  go_enter Try.func34, Try.ntmps34
  go_wp2_with fail
  refine KD.out.mono ?_
  rintro r w1 ⟨rfl, rfl⟩
  go_wp2_with fail
  refine (KA.out _).mono ?_
  rintro r w3 ⟨rfl, hb3⟩
  have B3 := hid hb3
  clear hb3
  go_wp2_with fail
  obtain ⟨W3, hW3⟩ : ∃ W3, W3 = w3.alloc (.cells #[.pointer (some ⟨rb, 0, none⟩), .int .i64 (a : Int), .int .i64 (n : Int), .int .i64 (E : Int), .int .i64 1, .int .i64 0, .bool false] 94) := ⟨_, rfl⟩
  have B4 : Hid (Below w1.heap.size w1 W3) := by rw [hW3]; exact B3.out.alloc B3.out.size _
  have hlb : W3.heap[w3.heap.size]? = some (.cells (((⟨a, n, E, 0, 1, true⟩ : LG).at_ []).rcells rb) 94 (0, 0)) := by rw [hW3]; exact heap_alloc_new w3 _
  have hlo : w1.heap.size ≤ w3.heap.size := B3.out.size
  rw [← hW3]
  clear hW3 B3
  generalize w3.heap.size = lb at *
  have WA : RWalAt W3 lb rb F D ((⟨a, n, E, 0, 1, true⟩ : LG).at_ []) := ⟨H.out.keep fun k hk => B4.out.block k (H.out.lt k hk), hlb, fun e => by have := H.out.lt lb e; omega, ⟨h2, by show a + n ≤ 256; have := HFit.out; omega, hE, by show 0 < 1 + 0; omega, by show 1 + 0 ≤ n; omega⟩, by have := HFit.out; rw [HN.out]; omega⟩
  have F0 : Hid (RFindAt W3 W3 lb rb F D ⟨a, n, E, 0, 1, true⟩ (.slice none 0 0) [] ((lists (secs D a n)).drop 1)) := ⟨WA, .nil _ _ _, World.ownsRow_nil _ _ _ _, Goes.refl _ _, WA.own_lt⟩
  clear WA hlb
  go_wp2_with fail
  generalize hccq : c - a = cc at *
  clear hccq hcell c0
  go_loopw [11, 12] (fun v av wr => ∃ (R : List Wl.Rec) (m : List (List UInt8)), av = .int .i64 (Wl.lastEp 0 R) ∧ Hid (RFindAt W3 wr lb rb F D ⟨a, n, E, 0, 1, true⟩ v R m) ∧ R.length ≤ 256) (fun v _ _ => 257 - (match v with | .slice _ n _ => n | _ => 0))
  case atStart => exact ⟨[], _, rfl, F0, by simp⟩
  case round =>
    clear F0
    obtain ⟨R, m, rfl, hr, hR⟩ := hrel
    obtain ⟨hm, hu, hRu⟩ := hr.out.rest (by rw [HN.out]; exact HFit.out) h2
    have hm : m = lists ((secs D a n).drop (1 + Wl.sizes R)) := hm
    have hu : 1 + Wl.sizes R ≤ n := hu
    have l4 : wr.cell? ⟨lb, 4, none⟩ = some (.int .i64 ((1 + Wl.sizes R : Nat) : Int)) := hr.out.wal.l4
    have l5 : wr.cell? ⟨lb, 5, none⟩ = some (.int .i64 (R.length : Int)) := hr.out.wal.l5
    have l4' : wr.drew.cell? ⟨lb, 4, none⟩ = some (.int .i64 ((1 + Wl.sizes R : Nat) : Int)) := hr.out.wal.drew.l4
    have l5' : wr.drew.cell? ⟨lb, 5, none⟩ = some (.int .i64 (R.length : Int)) := hr.out.wal.drew.l5
    have L4 : Hid (∀ W : World, Below wr.heap.size wr W → W.cell? ⟨lb, 4, none⟩ = some (.int .i64 ((1 + Wl.sizes R : Nat) : Int))) := fun W hW => (hr.out.wal.below hW).l4
    have L5 : Hid (∀ W : World, Below wr.heap.size wr W → W.cell? ⟨lb, 5, none⟩ = some (.int .i64 (R.length : Int))) := fun W hW => (hr.out.wal.below hW).l5
    have l3w : Hid (∀ W : World, Below wr.heap.size wr W → W.cell? ⟨lb, 3, none⟩ = some (.int .i64 (E : Int))) := fun W hW => (hr.out.wal.below hW).l3
    have hu' : ((1 + Wl.sizes R : Nat) : Int) ≤ 256 := by omega
    by_cases hend : 1 + Wl.sizes R = n
    · have hm0 : m = [] := by rw [hm, hend, List.drop_of_length_le (by rw [HSL.out]; omega)]; rfl
      have EE : Hid (Wl.Ends (E : Int) (Wl.lastEp 0 R) R.length m) := fun r hr => by rw [hm0] at hr; cases hr
      rw [hend] at l4 l4' L4 hu'
      clear hm hu hm0 hend hRu
      by_cases hcq : cc = n
      · have hcq' := hcq.symm
        clear hcq
        subst hcq'
        have KG := hid fun W => recordAt_none g a 0 (R.length : Int) W
        go_wp2_with fail
        go_region_held3 (fun W => W.cell? ⟨lb, 4, none⟩ = some (.int .i64 (n : Int)) ∧ W.cell? ⟨lb, 5, none⟩ = some (.int .i64 (R.length : Int)))
          (first | (go_split_ands; exact ⟨by assumption, by assumption⟩))
          ((go_at_call 65; refine (KG.out _).mono ?_; rintro rr w6 ⟨rfl, hb6⟩; have B6 : Hid (Below wr.heap.size wr w6) := (below_tr (Below.refl _ wr).drew hb6); have m4 := L4.out w6 B6.out; have m5 := L5.out w6 B6.out; clear hb6; simp only [ratV]))
        all_goals skip
        have FA := hid (hr.out.below B6.out)
        clear l4 l5 l4' l5' m4 m5
        have KU := hid (rraise_any _ lb rb F D (LG.made a n E R) FA.out.wal HF.out)
        have TL := hid fun w5 F5 g5 => ropen_tail (w5 := w5) (F5 := F5) FA.out B4.out hlo g5
        have HCH := hid FA.out.chain
        clear FA
        go_wp2_with fail
        refine KU.out.mono ?_
        rintro r w5 ⟨F5, rfl, h5, g5⟩
        have T5 := hid (TL.out w5 F5 g5)
        have H5 := hid h5
        clear h5 g5 KU TL
        by_cases hc : (wlRaise D (LG.made a n E R)).1 = 0
        · rw [hc]
          go_wp2_with fail
          go_ret3
          exact ⟨R, m, HCH.out, EE.out, fun h0 => absurd hc h0, fun _ => ⟨F5, lb, _, rfl, H5.out, T5.out.2.1, T5.out.2.2, T5.out.1, by omega⟩⟩
        · have hc' : ((wlRaise D (LG.made a n E R)).1 != 0) = true := by simpa using hc
          generalize hX : wlRaise D (LG.made a n E R) = X at *
          go_wp2_with fail
          go_ret3
          refine ⟨R, m, HCH.out, EE.out, ?_⟩
          unfold ROpenPost
          rw [hX]
          exact ⟨fun _ => ⟨F5, rfl, H5.out.ref, ⟨T5.out.1.os, T5.out.1.tape, T5.out.1.output, T5.out.1.size, T5.out.1.block, fun k hk => T5.out.1.grow k (.inl hk)⟩⟩, fun h0 => absurd h0 hc⟩
      · have KG := hid fun W => recordAt_none g (a + n) (cc - n) (R.length : Int) W
        go_wp2_with fail
        go_region_held3 (fun W => W.cell? ⟨lb, 4, none⟩ = some (.int .i64 (n : Int)) ∧ W.cell? ⟨lb, 5, none⟩ = some (.int .i64 (R.length : Int)))
          (first | (go_split_ands; exact ⟨by assumption, by assumption⟩))
          ((go_at_call 65; refine (KG.out _).mono ?_; rintro rr w6 ⟨rfl, hb6⟩; have B6 : Hid (Below wr.heap.size wr w6) := (below_tr (Below.refl _ wr).drew hb6); have m4 := L4.out w6 B6.out; have m5 := L5.out w6 B6.out; clear hb6; simp only [ratV]))
        all_goals skip
        have FA := hid (hr.out.below B6.out)
        clear l4 l5 l4' l5' m4 m5
        have KU := hid (rraise_any _ lb rb F D (LG.made a n E R) FA.out.wal HF.out)
        have TL := hid fun w5 F5 g5 => ropen_tail (w5 := w5) (F5 := F5) FA.out B4.out hlo g5
        have HCH := hid FA.out.chain
        clear FA
        go_wp2_with fail
        refine KU.out.mono ?_
        rintro r w5 ⟨F5, rfl, h5, g5⟩
        have T5 := hid (TL.out w5 F5 g5)
        have H5 := hid h5
        clear h5 g5 KU TL
        by_cases hc : (wlRaise D (LG.made a n E R)).1 = 0
        · rw [hc]
          go_wp2_with fail
          go_ret3
          exact ⟨R, m, HCH.out, EE.out, fun h0 => absurd hc h0, fun _ => ⟨F5, lb, _, rfl, H5.out, T5.out.2.1, T5.out.2.2, T5.out.1, by omega⟩⟩
        · have hc' : ((wlRaise D (LG.made a n E R)).1 != 0) = true := by simpa using hc
          generalize hX : wlRaise D (LG.made a n E R) = X at *
          go_wp2_with fail
          go_ret3
          refine ⟨R, m, HCH.out, EE.out, ?_⟩
          unfold ROpenPost
          rw [hX]
          exact ⟨fun _ => ⟨F5, rfl, H5.out.ref, ⟨T5.out.1.os, T5.out.1.tape, T5.out.1.output, T5.out.1.size, T5.out.1.block, fun k hk => T5.out.1.grow k (.inl hk)⟩⟩, fun h0 => absurd h0 hc⟩
    · have hult : 1 + Wl.sizes R < n := by omega
      have hdl : ((secs D a n).drop (1 + Wl.sizes R)).length = n - (1 + Wl.sizes R) := by rw [List.length_drop, HSL.out]
      have KG0 : Hid (∀ W : World, Below wr.heap.size wr W → Calls Try.prog 65 #[.slice (some ⟨g, a + (1 + Wl.sizes R), none⟩) (n - (1 + Wl.sizes R)) (cc - (1 + Wl.sizes R)), .int .i64 (R.length : Int)] W fun r w' => r = .returned (ratV (Wl.getRec m (R.length : Int))) ∧ Below W.heap.size W w') := fun W hW => by
        rw [hm]
        have htl := (TXA.out W (hr.out.wal.below hW).ref).tail (1 + Wl.sizes R) (by rw [HSL.out]; omega)
        have := recordAt_any g (a + (1 + Wl.sizes R)) (cc - (1 + Wl.sizes R)) (R.length : Int) W ((secs D a n).drop (1 + Wl.sizes R)) htl (fun s hs => HS64.out s (List.mem_of_mem_drop hs)) (by rw [hdl]; omega) (by unfold Wl.I64; omega)
        rw [hdl] at this
        exact this
      have KG : Hid (∀ W : World, Below wr.heap.size wr W → _) := KG0
      have hne1 : ¬ (cc = 1 + Wl.sizes R) := by omega
      have hu0 : (0 : Int) ≤ ((1 + Wl.sizes R : Nat) : Int) := by omega
      have hu1 : ((1 + Wl.sizes R : Nat) : Int) ≤ (n : Int) := by omega
      have HM := hid hm
      have HU : Hid (1 + Wl.sizes R < n) := hult
      have hep : (E : Int) ≤ 1000000 := by omega
      have hlo2 := hr.out.chain.last_le (by show (0 : Int) ≤ (E : Int); omega)
      have hlo2 : 0 ≤ Wl.lastEp 0 R ∧ Wl.lastEp 0 R ≤ (E : Int) := hlo2
      have NX : Hid (∀ (r : Wl.Rec) (W4 W5 : World) (v' : Value), Wl.getRec m (R.length : Int) = some r → Wl.lastEp 0 R ≤ r.epoch → r.epoch ≤ (E : Int) → Below wr.heap.size wr W4 → W5.ownsRow W3.heap.size 9 1 v' ((txts R).length + 1) ((txts R).map Value.string ++ [.string (ba r.text)]) → W4.grownBy W5 u11.ownBlock → RFindAt W3 ((W5.setCell ⟨lb, 4, none⟩ (.int .i64 ((1 + Wl.sizes R + r.size : Nat) : Int))).setCell ⟨lb, 5, none⟩ (.int .i64 ((R.length + 1 : Nat) : Int))) lb rb F D ⟨a, n, E, 0, 1, true⟩ v' (R ++ [r]) (m.drop r.size)) :=
        fun r W4 W5 v' a1 a2 a3 a4 a5 a6 => hr.out.next (by rw [HN.out]; exact HFit.out) h2 a1 a2 a3 a4 a5 a6 rfl
      have HFits : Hid (∀ r, Wl.getRec m (R.length : Int) = some r → Wl.I64 r.epoch ∧ 1 ≤ r.size ∧ 1 + Wl.sizes R + r.size ≤ n) := fun r hr => by
        obtain ⟨q1, q2, _, q4, _⟩ := Wl.rec_local hr
        rw [HM.out, lists_len, hdl] at q2
        have := HU.out
        exact ⟨q4, q1, by omega⟩
      clear KG0 hm hult hdl hend
      obtain ⟨u, hq⟩ : ∃ u, 1 + Wl.sizes R = u := ⟨_, rfl⟩
      rw [hq] at l4 l4' L4 KG hne1 hu0 hu1 hu' NX HFits
      have HQu := hid hq
      clear hq hu HU HM
      cases hG : Wl.getRec m (R.length : Int) with
      | none =>
        rw [hG] at KG
        have EE : Hid (Wl.Ends (E : Int) (Wl.lastEp 0 R) R.length m) := fun r hr => by rw [hG] at hr; cases hr
        clear hG NX HFits
        go_wp2_with fail
        go_region_held3 (fun W => W.cell? ⟨lb, 4, none⟩ = some (.int .i64 (u : Int)) ∧ W.cell? ⟨lb, 5, none⟩ = some (.int .i64 (R.length : Int)))
          (first | (go_split_ands; exact ⟨by assumption, by assumption⟩))
          ((go_at_call 65; refine (KG.out _ (Below.refl _ wr).drew).mono ?_; rintro rr w6 ⟨rfl, hb6⟩; have B6 : Hid (Below wr.heap.size wr w6) := (below_tr (Below.refl _ wr).drew hb6); have m4 := L4.out w6 B6.out; have m5 := L5.out w6 B6.out; clear hb6; simp only [ratV]))
        all_goals skip
        have FA := hid (hr.out.below B6.out)
        clear l4 l5 l4' l5' m4 m5
        have KU := hid (rraise_any _ lb rb F D (LG.made a n E R) FA.out.wal HF.out)
        have TL := hid fun w5 F5 g5 => ropen_tail (w5 := w5) (F5 := F5) FA.out B4.out hlo g5
        have HCH := hid FA.out.chain
        clear FA
        go_wp2_with fail
        refine KU.out.mono ?_
        rintro r w5 ⟨F5, rfl, h5, g5⟩
        have T5 := hid (TL.out w5 F5 g5)
        have H5 := hid h5
        clear h5 g5 KU TL
        by_cases hc : (wlRaise D (LG.made a n E R)).1 = 0
        · rw [hc]
          go_wp2_with fail
          go_ret3
          exact ⟨R, m, HCH.out, EE.out, fun h0 => absurd hc h0, fun _ => ⟨F5, lb, _, rfl, H5.out, T5.out.2.1, T5.out.2.2, T5.out.1, by omega⟩⟩
        · have hc' : ((wlRaise D (LG.made a n E R)).1 != 0) = true := by simpa using hc
          generalize hX : wlRaise D (LG.made a n E R) = X at *
          go_wp2_with fail
          go_ret3
          refine ⟨R, m, HCH.out, EE.out, ?_⟩
          unfold ROpenPost
          rw [hX]
          exact ⟨fun _ => ⟨F5, rfl, H5.out.ref, ⟨T5.out.1.os, T5.out.1.tape, T5.out.1.output, T5.out.1.size, T5.out.1.block, fun k hk => T5.out.1.grow k (.inl hk)⟩⟩, fun h0 => absurd h0 hc⟩
      | some r =>
        obtain ⟨hre, hs1, hs2⟩ := HFits.out r hG
        rw [hG] at KG
        obtain ⟨re1, re2⟩ := hre
        have hsz : (r.size : Int) ≤ 256 := by omega
        have hsz0 : ((r.size : Int) == 0) = false := by simp; omega
        have EX : Hid ((r.epoch < Wl.lastEp 0 R ∨ (E : Int) < r.epoch) → Wl.Ends (E : Int) (Wl.lastEp 0 R) R.length m) := fun h x hx => by
          rw [hG] at hx
          obtain rfl := Option.some.inj hx
          exact h
        have NY : Hid (∀ (W4 W5 : World) (v' : Value), Wl.lastEp 0 R ≤ r.epoch → r.epoch ≤ (E : Int) → Below wr.heap.size wr W4 → W5.ownsRow W3.heap.size 9 1 v' ((txts R).length + 1) ((txts R).map Value.string ++ [.string (ba r.text)]) → W4.grownBy W5 u11.ownBlock → RFindAt W3 ((W5.setCell ⟨lb, 4, none⟩ (.int .i64 ((u + r.size : Nat) : Int))).setCell ⟨lb, 5, none⟩ (.int .i64 ((R.length + 1 : Nat) : Int))) lb rb F D ⟨a, n, E, 0, 1, true⟩ v' (R ++ [r]) (m.drop r.size)) := fun W4 W5 v' => NX.out r W4 W5 v' hG
        have HRow : Hid (wr.ownsRow W3.heap.size 9 1 u11 (txts R).length ((txts R).map Value.string)) := hr.out.row
        have hwz : Hid (W3.heap.size ≤ wr.heap.size) := hr.out.goes.size
        have htl : (txts R).length = R.length := txts_len R
        clear hG NX HFits
        go_wp2_with fail
        go_region_held3 (fun W => W.cell? ⟨lb, 4, none⟩ = some (.int .i64 (u : Int)) ∧ W.cell? ⟨lb, 5, none⟩ = some (.int .i64 (R.length : Int)))
          (first | (go_split_ands; exact ⟨by assumption, by assumption⟩))
          ((go_at_call 65; refine (KG.out _ (Below.refl _ wr).drew).mono ?_; rintro rr w6 ⟨rfl, hb6⟩; have B6 : Hid (Below wr.heap.size wr w6) := (below_tr (Below.refl _ wr).drew hb6); have m4 := L4.out w6 B6.out; have m5 := L5.out w6 B6.out; clear hb6; simp only [ratV]))
        all_goals skip
        have FA := hid (hr.out.below B6.out)

        have m3 := l3w.out _ B6.out
        clear l4 l5 l4' l5'
        by_cases hA : r.epoch < Wl.lastEp 0 R
        · have ha' : decide (r.epoch < Wl.lastEp 0 R) = true := by simpa using hA
          have EE := hid (EX.out (.inl hA))
          clear EX NY m4 m5
          have KU := hid (rraise_any _ lb rb F D (LG.made a n E R) FA.out.wal HF.out)
          have TL := hid fun w5 F5 g5 => ropen_tail (w5 := w5) (F5 := F5) FA.out B4.out hlo g5
          have HCH := hid FA.out.chain
          clear FA
          go_wp2_with fail
          refine KU.out.mono ?_
          rintro r w5 ⟨F5, rfl, h5, g5⟩
          have T5 := hid (TL.out w5 F5 g5)
          have H5 := hid h5
          clear h5 g5 KU TL
          by_cases hc : (wlRaise D (LG.made a n E R)).1 = 0
          · rw [hc]
            go_wp2_with fail
            go_ret3
            exact ⟨R, m, HCH.out, EE.out, fun h0 => absurd hc h0, fun _ => ⟨F5, lb, _, rfl, H5.out, T5.out.2.1, T5.out.2.2, T5.out.1, by omega⟩⟩
          · have hc' : ((wlRaise D (LG.made a n E R)).1 != 0) = true := by simpa using hc
            generalize hX : wlRaise D (LG.made a n E R) = X at *
            go_wp2_with fail
            go_ret3
            refine ⟨R, m, HCH.out, EE.out, ?_⟩
            unfold ROpenPost
            rw [hX]
            exact ⟨fun _ => ⟨F5, rfl, H5.out.ref, ⟨T5.out.1.os, T5.out.1.tape, T5.out.1.output, T5.out.1.size, T5.out.1.block, fun k hk => T5.out.1.grow k (.inl hk)⟩⟩, fun h0 => absurd h0 hc⟩
        · have ha' : decide (r.epoch < Wl.lastEp 0 R) = false := by simpa using hA
          by_cases hB : (E : Int) < r.epoch
          · have hb' : decide ((E : Int) < r.epoch) = true := by simpa using hB
            have EE := hid (EX.out (.inr hB))
            clear EX NY m4 m5
            have KU := hid (rraise_any _ lb rb F D (LG.made a n E R) FA.out.wal HF.out)
            have TL := hid fun w5 F5 g5 => ropen_tail (w5 := w5) (F5 := F5) FA.out B4.out hlo g5
            have HCH := hid FA.out.chain
            clear FA
            go_wp2_with fail
            refine KU.out.mono ?_
            rintro r w5 ⟨F5, rfl, h5, g5⟩
            have T5 := hid (TL.out w5 F5 g5)
            have H5 := hid h5
            clear h5 g5 KU TL
            by_cases hc : (wlRaise D (LG.made a n E R)).1 = 0
            · rw [hc]
              go_wp2_with fail
              go_ret3
              exact ⟨R, m, HCH.out, EE.out, fun h0 => absurd hc h0, fun _ => ⟨F5, lb, _, rfl, H5.out, T5.out.2.1, T5.out.2.2, T5.out.1, by omega⟩⟩
            · have hc' : ((wlRaise D (LG.made a n E R)).1 != 0) = true := by simpa using hc
              generalize hX : wlRaise D (LG.made a n E R) = X at *
              go_wp2_with fail
              go_ret3
              refine ⟨R, m, HCH.out, EE.out, ?_⟩
              unfold ROpenPost
              rw [hX]
              exact ⟨fun _ => ⟨F5, rfl, H5.out.ref, ⟨T5.out.1.os, T5.out.1.tape, T5.out.1.output, T5.out.1.size, T5.out.1.block, fun k hk => T5.out.1.grow k (.inl hk)⟩⟩, fun h0 => absurd h0 hc⟩
          · have hb' : decide ((E : Int) < r.epoch) = false := by simpa using hB
            have hA : Wl.lastEp 0 R ≤ r.epoch := by omega
            have hB : r.epoch ≤ (E : Int) := by omega
            go_wp2_with (at_builtin; refine wpList_append_own _ rfl _ _ 54 rfl W3.heap.size 9 i0 (.string ⟨#[]⟩) 1 16 Try.underlying54 hi hz0 hz1 hz2 rfl (by decide) _ _ _ rfl (FA.out.row.alloc _) ⟨w6.heap.size, 0, none⟩ 1 1 [.string (ba r.text)] rfl rfl ?c1 ?c2 ?c3 ?c4 ?c5 ?_)
            case c2 => rfl
            case c3 => unfold maxLen; omega
            case c4 => omega
            case c5 => have := FA.out.goes.size; simp; omega
            · intro v' w7 hown' hgrow _
              have VF := hid (owns_form hown')
              rw [← htl] at hown'
              have NZ := hid (NY.out (w6.alloc _) w7 v' hA hB (belo wr B6.out) hown' hgrow)
              have hrow : ∀ k, u11.ownBlock = some k → W3.heap.size ≤ k ∧ k < wr.heap.size := fun k hk => HRow.out.lt k hk
              have hl6 := grown_keep FA.out.wal.log hgrow (fun e => by have := (hrow lb e).1; have := FA.out.old lb (.inr rfl); omega)
              have q4 : w7.cell? ⟨lb, 4, none⟩ = some (.int .i64 (u : Int)) := by rw [← HQu.out, cell_of_row w7 _ _ _ _ _ hl6]; rfl
              have q5 : w7.cell? ⟨lb, 5, none⟩ = some (.int .i64 (R.length : Int)) := by rw [cell_of_row w7 _ _ _ _ _ hl6]; rfl
              have f4 : w7.frozen? ⟨lb, 4, none⟩ = false := by simp [World.frozen?, hl6]
              have f5 : w7.frozen? ⟨lb, 5, none⟩ = false := by simp [World.frozen?, hl6]
              have hRl : (R.length : Int) ≤ 256 := by omega
              have hul : (u : Int) ≤ 256 := by omega
              rw [show ((R.length + 1 : Nat) : Int) = (R.length : Int) + 1 by omega, show ((u + r.size : Nat) : Int) = (u : Int) + (r.size : Int) by omega] at NZ
              clear hown' hgrow hl6 hrow NY FA m3 m4 m5
              go_wp2_with fail
              go_region
              all_goals (try go_wp2_with fail)
              all_goals go_roundw
              all_goals first
                | exact ⟨R ++ [r], m.drop r.size, by rw [Wl.lastEp_app]; rfl, NZ, by have := HQu.out; simp; omega⟩
                | exact ⟨R ++ [r], m.drop r.size, by rw [Wl.lastEp_app]; rfl, hid (NZ.out.below (Below.refl _ _).drew), by have := HQu.out; simp; omega⟩
                | (obtain ⟨a1, c1, e1⟩ := owns_form HRow.out; obtain ⟨a2, c2, e2⟩ := VF.out; rw [e1, e2]; simp; omega)

end Go.Proofs.Ythfpinjegfgeiaa
