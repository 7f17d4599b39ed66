/- The document's own log: how it lies in memory; fall, raise, Sync, Room, walked: the same plain model as the program's. -/
import Derived.Test.YthfpinjegfgeiaaWalRefGet
namespace Go.Proofs.Ythfpinjegfgeiaa
open Go Go.RowKit
set_option maxRecDepth 100000

def LG.rcells (G : LG) (rb : Nat) : Array Value := #[.pointer (some ⟨rb, 0, none⟩), .int .i64 (G.frm : Int), .int .i64 (G.n : Int), .int .i64 (G.epoch : Int), .int .i64 (G.used : Int), .int .i64 (G.count : Int), .bool (!G.sound)]
def rwown (rb : Nat) (F : Nat → FR) (lb : Nat) (k : Nat) : Prop := rown rb F k ∨ k = lb
structure RWalAt (w : World) (lb rb : Nat) (F : Nat → FR) (D : SD) (G : LG) : Prop where
  ref : RefAt w rb F D
  log : w.heap[lb]? = some (.cells (G.rcells rb) 94 (0, 0))
  far : ¬ rown rb F lb
  ok : G.ok
  pos : 0 < D.n

section
variable {w : World} {lb rb : Nat} {F : Nat → FR} {D : SD} {G : LG} (h : RWalAt w lb rb F D G)
include h
theorem RWalAt.l0 : w.cell? ⟨lb, 0, none⟩ = some (.pointer (some ⟨rb, 0, none⟩)) := by rw [cell_of_row w _ _ _ _ _ h.log]; rfl
theorem RWalAt.l1 : w.cell? ⟨lb, 1, none⟩ = some (.int .i64 (G.frm : Int)) := by rw [cell_of_row w _ _ _ _ _ h.log]; rfl
theorem RWalAt.l2 : w.cell? ⟨lb, 2, none⟩ = some (.int .i64 (G.n : Int)) := by rw [cell_of_row w _ _ _ _ _ h.log]; rfl
theorem RWalAt.l3 : w.cell? ⟨lb, 3, none⟩ = some (.int .i64 (G.epoch : Int)) := by rw [cell_of_row w _ _ _ _ _ h.log]; rfl
theorem RWalAt.l4 : w.cell? ⟨lb, 4, none⟩ = some (.int .i64 (G.used : Int)) := by rw [cell_of_row w _ _ _ _ _ h.log]; rfl
theorem RWalAt.l5 : w.cell? ⟨lb, 5, none⟩ = some (.int .i64 (G.count : Int)) := by rw [cell_of_row w _ _ _ _ _ h.log]; rfl
theorem RWalAt.l6 : w.cell? ⟨lb, 6, none⟩ = some (.bool (!G.sound)) := by rw [cell_of_row w _ _ _ _ _ h.log]; rfl
theorem RWalAt.lf (i : Nat) : w.frozen? ⟨lb, i, none⟩ = false := by simp [World.frozen?, h.log]
theorem RWalAt.own_lt : ∀ k, rwown rb F lb k → k < w.heap.size := by
  rintro k (hk | rfl)
  · exact h.ref.lt k hk
  · exact lt_of_heap h.log
theorem RWalAt.keep {w' : World} (hb : ∀ k, rwown rb F lb k → w'.heap[k]? = w.heap[k]?) : RWalAt w' lb rb F D G :=
  ⟨h.ref.keep fun k hk => hb k (.inl hk), by rw [hb lb (.inr rfl)]; exact h.log, h.far, h.ok, h.pos⟩
theorem RWalAt.below {w' : World} (hb : Below w.heap.size w w') : RWalAt w' lb rb F D G := h.keep fun k hk => hb.block k (h.own_lt k hk)
theorem RWalAt.drew : RWalAt w.drew lb rb F D G := h.keep fun _ _ => rfl
theorem RWalAt.step {w' : World} {F' : Nat → FR} {D' : SD} (hd : RefAt w' rb F' D') (hn : D'.n = D.n) (g : Goes (rown rb F) w w' (rown rb F')) : RWalAt w' lb rb F' D' G ∧ Goes (rwown rb F lb) w w' (rwown rb F' lb) := by
  have hlt := lt_of_heap h.log
  refine ⟨⟨hd, by rw [g.block lb hlt h.far]; exact h.log, fun e => ?_, h.ok, by rw [hn]; exact h.pos⟩, ⟨g.os, g.tape, g.output, g.size, fun k hk hn => g.block k hk (fun e => hn (.inl e)), ?_⟩⟩
  · rcases g.grow lb e with e | e
    · exact h.far e
    · omega
  · rintro k (hk | hk)
    · exact (g.grow k hk).imp .inl id
    · exact .inl (.inr hk)
theorem RWalAt.set {G' : LG} (hok : G'.ok) {w' : World} (hw : w' = w.setRow lb (G'.rcells rb)) : RWalAt w' lb rb F D G' ∧ Goes (rwown rb F lb) w w' (rwown rb F lb) := by
  subst hw
  refine ⟨⟨h.ref.keep fun k hk => setRow_other _ _ _ _ (fun e => h.far (e ▸ hk)), setRow_heap w _ _ _ _ _ h.log, h.far, hok, h.pos⟩, (Goes.refl _ w).setRow (.inl (.inr rfl)) _⟩
theorem RWalAt.cell6 : w.setCell ⟨lb, 6, none⟩ (.bool true) = w.setRow lb (LG.rcells { G with sound := false } rb) := by rw [setCell_eq_setRow w lb 6 _ _ _ _ h.log]; rfl
theorem RWalAt.cell3 (e : Nat) : w.setCell ⟨lb, 3, none⟩ (.int .i64 (e : Int)) = w.setRow lb (LG.rcells { G with epoch := e } rb) := by rw [setCell_eq_setRow w lb 3 _ _ _ _ h.log]; rfl
theorem RWalAt.cell45 (u c : Nat) : (w.setCell ⟨lb, 4, none⟩ (.int .i64 (u : Int))).setCell ⟨lb, 5, none⟩ (.int .i64 (c : Int)) = w.setRow lb (LG.rcells { G with count := c, used := u } rb) := by
  have e1 : w.setCell ⟨lb, 4, none⟩ (.int .i64 (u : Int)) = w.setRow lb (LG.rcells { G with used := u } rb) := by rw [setCell_eq_setRow w lb 4 _ _ _ _ h.log]; rfl
  have b1 : (w.setRow lb (LG.rcells { G with used := u } rb)).heap[lb]? = some (.cells (LG.rcells { G with used := u } rb) 94 (0, 0)) := setRow_heap w _ _ _ _ _ h.log
  rw [e1, setCell_eq_setRow _ lb 5 _ _ _ _ b1, setRow_setRow]
  rfl
end

/-- What a call of the document's log leaves. -/
def RPost (w : World) (lb rb : Nat) (F : Nat → FR) (x : Int × SD × LG) (r : Ending) (w' : World) : Prop := ∃ F', r = .returned (.int .i64 x.1) ∧ RWalAt w' lb rb F' x.2.1 x.2.2 ∧ Goes (rwown rb F lb) w w' (rwown rb F' lb)

set_option maxHeartbeats 1000000 in
theorem rroom_any (w : World) (lb rb : Nat) (F : Nat → FR) (D : SD) (G : LG) (h : RWalAt w lb rb F D G) : Calls Try.prog 45 #[.pointer (some ⟨lb, 0, none⟩)] w fun e w' => e = .returned (.int .i64 ((G.n : Int) - (G.used : Int))) ∧ Below w.heap.size w w' := by
  have l2 := h.l2
  have l4 := h.l4
  have hn : (G.n : Int) ≤ 256 := by have := h.ok.fit; omega
  have hu : (G.used : Int) ≤ 256 := by have := h.ok.fit; have := h.ok.use; omega
  clear h
  generalize G.n = n at *
  generalize G.used = u at *
  go_enter Try.func45, Try.ntmps45
  go_wp2_with fail
  go_region
  all_goals (try go_wp2_with fail)
  all_goals (go_ret; exact ⟨rfl, by first | exact (Below.refl _ _).drew | exact Below.refl _ _⟩)

theorem fall_any (w : World) (lb rb : Nat) (F : Nat → FR) (D : SD) (G : LG) (h : RWalAt w lb rb F D G) (e : Int) : Calls Try.prog 70 #[.pointer (some ⟨lb, 0, none⟩), .int .i64 e] w fun r w' =>
    r = .returned (.int .i64 e) ∧ RWalAt w' lb rb F D (G.heed e) ∧ Goes (rwown rb F lb) w w' (rwown rb F lb) := by
  by_cases he : e = 0
  · have hb : (e != 0) = false := by simpa using he
    have e1 : G.heed e = G := by unfold LG.heed; rw [if_pos he]
    rw [e1]
    have H := hid h
    clear h e1
    go_enter Try.func70, Try.ntmps70
    go_wp2_with fail
    go_ret
    exact ⟨rfl, H.out, Goes.refl _ _⟩
  · have hb : (e != 0) = true := by simpa using he
    have e1 : G.heed e = { G with sound := false } := by unfold LG.heed; rw [if_neg he]
    have H := hid (h.set (G' := { G with sound := false }) (e1 ▸ heed_ok h.ok e) h.cell6)
    rw [e1]
    have l6 := h.l6
    have f6 := h.lf 6
    clear h e1
    go_enter Try.func70, Try.ntmps70
    go_wp2_with fail
    go_ret
    exact ⟨rfl, H.out⟩

theorem rflush_any (w : World) (lb rb : Nat) (F : Nat → FR) (D : SD) (G : LG) (h : RWalAt w lb rb F D G) : Calls Try.prog 55 #[.pointer (some ⟨rb, 0, none⟩)] w fun e w' =>
    ∃ F', e = .returned (.int .i64 D.flush.1) ∧ RWalAt w' lb rb F' D.flush.2 G ∧ Goes (rwown rb F lb) w w' (rwown rb F' lb) := by
  refine (ref_flush w rb F D h.ref h.pos).mono ?_
  rintro e w' ⟨F', rfl, hd, g⟩
  have := h.step hd (flush_n D).1 g
  exact ⟨F', rfl, this.1, this.2⟩
theorem rwrite_any (w : World) (lb rb : Nat) (F : Nat → FR) (D : SD) (G : LG) (h : RWalAt w lb rb F D G) (a : Int) (s : ByteArray) (hf : few D) : Calls Try.prog 52 #[.pointer (some ⟨rb, 0, none⟩), .int .i64 a, .string s] w fun e w' =>
    ∃ F', e = .returned (.int .i64 (D.write a s).1) ∧ RWalAt w' lb rb F' (D.write a s).2 G ∧ Goes (rwown rb F lb) w w' (rwown rb F' lb) := by
  refine (ref_write w rb F D h.ref a s (room16 _ (few_room hf)).1).mono ?_
  rintro e w' ⟨F', rfl, hd, g⟩
  have := h.step hd (write_n D a s).1 g
  exact ⟨F', rfl, this.1, this.2⟩

set_option maxHeartbeats 2000000 in
theorem rsync_any (w : World) (lb rb : Nat) (F : Nat → FR) (D : SD) (G : LG) (h : RWalAt w lb rb F D G) :
    Calls Try.prog 39 #[.pointer (some ⟨lb, 0, none⟩)] w (RPost w lb rb F (wlSync D G)) := by
  have KF := hid (rflush_any w lb rb F D G h)
  have KH := hid fun W F' D' G' (hW : RWalAt W lb rb F' D' G') e => fall_any W lb rb F' D' G' hW e
  have l6 := h.l6
  have l0 := h.l0
  unfold wlSync
  have H := hid h
  clear h
  by_cases hs : G.sound = true
  · rw [if_pos hs]
    rw [hs] at l6
    clear hs
    unfold wlFlush
    generalize D.flush = X at *
    go_enter Try.func39, Try.ntmps39
    go_wp2_with fail
    refine KF.out.mono ?_
    rintro r w2 ⟨F2, rfl, h2, g2⟩
    have H2 := hid h2
    have G2' := hid g2
    clear h2 g2 l0
    go_wp2_with fail
    refine (KH.out _ _ _ _ H2.out _).mono ?_
    rintro r w3 ⟨rfl, h3, g3⟩
    have H3 := hid h3
    have G3' := hid g3
    clear h3 g3
    go_wp2_with fail
    go_ret
    exact ⟨F2, rfl, H3.out, G2'.out.trans G3'.out⟩
  · rw [if_neg hs]
    have hs' : G.sound = false := by simpa using hs
    rw [hs'] at l6
    clear hs hs'
    go_enter Try.func39, Try.ntmps39
    go_wp2_with fail
    go_ret
    exact ⟨F, rfl, H.out, Goes.refl _ _⟩

/-! ### To raise -/
theorem wlRaise_write {D : SD} {G : LG} (hE : G.epoch ≠ 1000000) (h : (D.write (G.frm : Int) (anchorB ((G.epoch : Int) + 1))).1 ≠ 0) : wlRaise D G = ((D.write (G.frm : Int) (anchorB ((G.epoch : Int) + 1))).1, (D.write (G.frm : Int) (anchorB ((G.epoch : Int) + 1))).2, G.heed (D.write (G.frm : Int) (anchorB ((G.epoch : Int) + 1))).1) := by
  unfold wlRaise wlSafe wlWrite wlUp
  rw [if_neg hE, show ((G.epoch + 1 : Nat) : Int) = (G.epoch : Int) + 1 by omega, show ((G.frm : Int) + ((0 : Nat) : Int)) = (G.frm : Int) by omega]
  simp only
  rw [if_neg h, if_neg h]
theorem wlRaise_flush {D : SD} {G : LG} (hE : G.epoch ≠ 1000000) (h : (D.write (G.frm : Int) (anchorB ((G.epoch : Int) + 1))).1 = 0) : wlRaise D G = if (D.write (G.frm : Int) (anchorB ((G.epoch : Int) + 1))).2.flush.1 = 0 then (0, (D.write (G.frm : Int) (anchorB ((G.epoch : Int) + 1))).2.flush.2, { G with epoch := G.epoch + 1 }) else ((D.write (G.frm : Int) (anchorB ((G.epoch : Int) + 1))).2.flush.1, (D.write (G.frm : Int) (anchorB ((G.epoch : Int) + 1))).2.flush.2, G.heed (D.write (G.frm : Int) (anchorB ((G.epoch : Int) + 1))).2.flush.1) := by
  unfold wlRaise wlSafe wlWrite wlUp wlFlush
  rw [if_neg hE, show ((G.epoch + 1 : Nat) : Int) = (G.epoch : Int) + 1 by omega, show ((G.frm : Int) + ((0 : Nat) : Int)) = (G.frm : Int) by omega]
  simp only
  rw [if_pos h]
  simp only [h, heed_zero]
  split
  · rename_i h2
    rw [h2, heed_zero]
  · rfl

set_option maxHeartbeats 4000000 in
theorem rraise_any (w : World) (lb rb : Nat) (F : Nat → FR) (D : SD) (G : LG) (h : RWalAt w lb rb F D G) (hf : few D) :
    Calls Try.prog 66 #[.pointer (some ⟨lb, 0, none⟩)] w (RPost w lb rb F (wlRaise D G)) := by
  have l3 := h.l3
  have htop := h.ok.top
  have H := hid h
  obtain ⟨Y, hY⟩ : ∃ Y, Y = wlRaise D G := ⟨_, rfl⟩
  rw [← hY]
  have HY := hid hY
  clear hY
  by_cases he : G.epoch = 1000000
  · have HY1 : Hid (Y = (8, D, G)) := by show _ = _; rw [HY.out]; unfold wlRaise; rw [if_pos he]
    rw [he] at l3
    clear h he
    go_enter Try.func66, Try.ntmps66
    go_wp2_with fail
    go_ret
    rw [HY1.out]
    exact ⟨F, rfl, H.out, Goes.refl _ _⟩
  · have he1 : decide ((1000000 : Int) ≤ (G.epoch : Int)) = false := by simp; omega
    have hle : (G.epoch : Int) + 1 ≤ 1000000 := by omega
    have ht : (G.epoch : Int) ≤ 1000000 := by omega
    have hwe : IntKind.i64.wrap ((G.epoch : Int) + 1) = (G.epoch : Int) + 1 := IntWalk.i64_in _ ⟨by omega, by omega⟩
    have KA := hid fun W => anchorSector_any ((G.epoch : Int) + 1) W (by unfold Wl.I64; omega)
    have KW := hid fun W (hW : RWalAt W lb rb F D G) => rwrite_any W lb rb F D G hW (G.frm : Int) (anchorB ((G.epoch : Int) + 1)) hf
    have KF := hid fun W F' D' (hW : RWalAt W lb rb F' D' G) => rflush_any W lb rb F' D' G hW
    have KH := hid fun W F' D' G' (hW : RWalAt W lb rb F' D' G') e => fall_any W lb rb F' D' G' hW e
    have HW1 := hid (wlRaise_write (D := D) he)
    have HW2 := hid (wlRaise_flush (D := D) he)
    have l0' : w.drew.cell? ⟨lb, 0, none⟩ = some (.pointer (some ⟨rb, 0, none⟩)) := h.drew.l0
    have l1' : w.drew.cell? ⟨lb, 1, none⟩ = some (.int .i64 (G.frm : Int)) := h.drew.l1
    have l3' : w.drew.cell? ⟨lb, 3, none⟩ = some (.int .i64 (G.epoch : Int)) := h.drew.l3
    have l0 := h.l0
    have l1 := h.l1
    generalize anchorB ((G.epoch : Int) + 1) = A at *
    obtain ⟨c, D1, hX⟩ : ∃ c D1, D.write (G.frm : Int) A = (c, D1) := ⟨_, _, rfl⟩
    rw [hX] at KW HW1 HW2
    simp only at HW1 HW2
    clear h hX hf
    go_enter Try.func66, Try.ntmps66
    go_wp2_with fail
    go_region_held3 (fun W => W.cell? ⟨lb, 0, none⟩ = some (.pointer (some ⟨rb, 0, none⟩)) ∧ W.cell? ⟨lb, 1, none⟩ = some (.int .i64 (G.frm : Int)) ∧ W.cell? ⟨lb, 3, none⟩ = some (.int .i64 (G.epoch : Int)))
      (first | (go_split_ands; exact ⟨by assumption, by assumption, by assumption⟩))
      ((first | (go_at_call 80; refine (KA.out _).mono ?_; rintro r w1 ⟨rfl, hb1⟩; have W1 := hid (H.out.drew.below hb1); have B1 := hid hb1; have m0 := W1.out.l0; have m1 := W1.out.l1; have m3 := W1.out.l3; clear hb1) | (go_at_call 52; refine (KW.out _ W1.out).mono ?_; rintro r w2 ⟨F2, rfl, h2, g2⟩; have W2 := hid h2; have G2 := hid g2; have m0 := W2.out.l0; have m1 := W2.out.l1; have m3 := W2.out.l3; clear h2 g2)))
    all_goals skip
    have GG2 : Hid (Goes (rwown rb F lb) w w2 (rwown rb F2 lb)) := ((Goes.refl _ w).drew.trans (Goes.below' B1.out)).trans G2.out
    clear l0 l1 l3 l0' l1' l3' KA KW W1 G2 B1
    by_cases hc : c = 0
    · subst hc
      have k0 := W2.out.l0
      have KF2 := KF.out w2 F2 D1 W2.out
      have HW3 := HW2.out rfl
      obtain ⟨c3, D3, hX⟩ : ∃ c D3, D1.flush = (c, D3) := ⟨_, _, rfl⟩
      rw [hX] at KF2 HW3
      simp only at HW3
      have KF3 := hid KF2
      have HW4 := hid HW3
      clear KF KF2 HW3 HW1 HW2 hX
      go_wp2_with fail
      refine KF3.out.mono ?_
      rintro r w3 ⟨F3, rfl, h3, g3⟩
      by_cases hc3 : c3 = 0
      · subst hc3
        have m3 := h3.l3
        have f3 := h3.lf 3
        have c3' := h3.cell3 (G.epoch + 1)
        rw [show ((G.epoch + 1 : Nat) : Int) = (G.epoch : Int) + 1 by omega] at c3'
        have S3 := h3.set (G' := { G with epoch := G.epoch + 1 }) ⟨h3.ok.n2, h3.ok.fit, by show G.epoch + 1 ≤ _; omega, h3.ok.cnt, h3.ok.use⟩ c3'
        have HS := hid S3
        have GG3 := hid ((GG2.out.trans g3).trans S3.2)
        have HY1 : Hid (Y = (0, D3, { G with epoch := G.epoch + 1 })) := by show _ = _; rw [HY.out, HW4.out, if_pos rfl]
        clear h3 g3 c3' S3 KF3 HW4
        go_wp2_with fail
        refine (KH.out _ _ _ _ HS.out.1 0).mono ?_
        rintro r w5 ⟨rfl, h5, g5⟩
        rw [heed_zero] at h5
        have H5 := hid h5
        have G5 := hid g5
        clear h5 g5
        go_wp2_with fail
        go_ret
        rw [HY1.out]
        exact ⟨F3, rfl, H5.out, GG3.out.trans G5.out⟩
      · have hc3' : (c3 == 0) = false := by simpa using hc3
        have H3 := hid h3
        have GG3 := hid (GG2.out.trans g3)
        have HY1 : Hid (Y = (c3, D3, G.heed c3)) := by show _ = _; rw [HY.out, HW4.out, if_neg hc3]
        clear h3 g3 KF3 HW4
        go_wp2_with fail
        refine (KH.out _ _ _ _ H3.out c3).mono ?_
        rintro r w5 ⟨rfl, h5, g5⟩
        have H5 := hid h5
        have G5 := hid g5
        clear h5 g5
        go_wp2_with fail
        go_ret
        rw [HY1.out]
        exact ⟨F3, rfl, H5.out, GG3.out.trans G5.out⟩
    · have hc' : (c == 0) = false := by simpa using hc
      have HY1 : Hid (Y = (c, D1, G.heed c)) := by show _ = _; rw [HY.out, HW1.out hc]
      clear HW1 HW2 KF
      go_wp2_with fail
      refine (KH.out _ _ _ _ W2.out c).mono ?_
      rintro r w5 ⟨rfl, h5, g5⟩
      have H5 := hid h5
      have G5 := hid g5
      clear h5 g5
      go_wp2_with fail
      go_ret
      rw [HY1.out]
      exact ⟨F2, rfl, H5.out, GG2.out.trans G5.out⟩

end Go.Proofs.Ythfpinjegfgeiaa
