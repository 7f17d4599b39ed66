/- A log on a disk: how it lies in memory; heed, write, writeSafe, raise, Sync, Room, walked. -/
import Derived.Test.YthfpinjegfgeiaaWalGet
namespace Go.Proofs.Ythfpinjegfgeiaa
open Go Go.RowKit
set_option maxRecDepth 100000

structure LG where
  frm : Nat
  n : Nat
  epoch : Nat
  count : Nat
  used : Nat
  sound : Bool
structure LG.ok (G : LG) : Prop where
  n2 : 2 ≤ G.n
  fit : G.frm + G.n ≤ 256
  top : G.epoch ≤ 1000000
  cnt : G.count < G.used
  use : G.used ≤ G.n
def LG.heed (G : LG) (e : Int) : LG := if e = 0 then G else { G with sound := false }
theorem heed_ok {G : LG} (h : G.ok) (e : Int) : (G.heed e).ok := by
  unfold LG.heed
  split
  · exact h
  · exact ⟨h.n2, h.fit, h.top, h.cnt, h.use⟩
theorem heed_frm (G : LG) (e : Int) : (G.heed e).frm = G.frm := by unfold LG.heed; split <;> rfl
theorem heed_epoch (G : LG) (e : Int) : (G.heed e).epoch = G.epoch := by unfold LG.heed; split <;> rfl
theorem heed_zero (G : LG) : G.heed 0 = G := by unfold LG.heed; rw [if_pos rfl]
def LG.cells (G : LG) (pb : Nat) : Array Value := #[.pointer (some ⟨pb, 0, none⟩), .int .i64 (G.frm : Int), .int .i64 (G.n : Int), .int .i64 (G.epoch : Int), .int .i64 (G.count : Int), .int .i64 (G.used : Int), .bool G.sound]
def wown (p : DP) (lb : Nat) (k : Nat) : Prop := p.own k ∨ k = lb

structure WalAt (w : World) (lb : Nat) (p : DP) (D : SD) (G : LG) : Prop where
  disk : DiskAt w p D
  log : w.heap[lb]? = some (.cells (G.cells p.b) 90 (0, 0))
  far : ¬ p.own lb
  ok : G.ok

section
variable {w : World} {lb : Nat} {p : DP} {D : SD} {G : LG} (h : WalAt w lb p D G)
include h
theorem WalAt.l0 : w.cell? ⟨lb, 0, none⟩ = some (.pointer (some ⟨p.b, 0, none⟩)) := by rw [cell_of_row w _ _ _ _ _ h.log]; rfl
theorem WalAt.l1 : w.cell? ⟨lb, 1, none⟩ = some (.int .i64 (G.frm : Int)) := by rw [cell_of_row w _ _ _ _ _ h.log]; rfl
theorem WalAt.l2 : w.cell? ⟨lb, 2, none⟩ = some (.int .i64 (G.n : Int)) := by rw [cell_of_row w _ _ _ _ _ h.log]; rfl
theorem WalAt.l3 : w.cell? ⟨lb, 3, none⟩ = some (.int .i64 (G.epoch : Int)) := by rw [cell_of_row w _ _ _ _ _ h.log]; rfl
theorem WalAt.l4 : w.cell? ⟨lb, 4, none⟩ = some (.int .i64 (G.count : Int)) := by rw [cell_of_row w _ _ _ _ _ h.log]; rfl
theorem WalAt.l5 : w.cell? ⟨lb, 5, none⟩ = some (.int .i64 (G.used : Int)) := by rw [cell_of_row w _ _ _ _ _ h.log]; rfl
theorem WalAt.l6 : w.cell? ⟨lb, 6, none⟩ = some (.bool G.sound) := by rw [cell_of_row w _ _ _ _ _ h.log]; rfl
theorem WalAt.lf (i : Nat) : w.frozen? ⟨lb, i, none⟩ = false := by simp [World.frozen?, h.log]
theorem WalAt.own_lt : ∀ k, wown p lb k → k < w.heap.size := by
  rintro k (hk | rfl)
  · exact h.disk.own_lt k hk
  · exact lt_of_heap h.log
theorem WalAt.keep {w' : World} (hb : ∀ k, wown p lb k → w'.heap[k]? = w.heap[k]?) : WalAt w' lb p D G :=
  ⟨h.disk.keep fun k hk => hb k (.inl hk), by rw [hb lb (.inr rfl)]; exact h.log, h.far, h.ok⟩
theorem WalAt.below {w' : World} (hb : Below w.heap.size w w') : WalAt w' lb p D G := h.keep fun k hk => hb.block k (h.own_lt k hk)
theorem WalAt.drew : WalAt w.drew lb p D G := h.keep fun _ _ => rfl
/-- The disk alone has done something. -/
theorem WalAt.step {w' : World} {p' : DP} {D' : SD} (hb : p'.b = p.b) (hd : DiskAt w' p' D') (g : Goes p.own w w' p'.own) : WalAt w' lb p' D' G ∧ Goes (wown p lb) w w' (wown p' lb) := by
  have hlt := lt_of_heap h.log
  refine ⟨⟨hd, by rw [g.block lb hlt h.far, hb]; exact h.log, fun e => ?_, h.ok⟩, ⟨g.os, g.tape, g.output, g.size, fun k hk hn => g.block k hk (fun e => hn (.inl e)), ?_⟩⟩
  · rcases g.grow lb e with e | e
    · exact h.far e
    · omega
  · rintro k (hk | hk)
    · exact (g.grow k hk).imp .inl id
    · exact .inl (.inr hk)
/-- The log's own cells are other ones. -/
theorem WalAt.set {G' : LG} (hok : G'.ok) {w' : World} (hw : w' = w.setRow lb (G'.cells p.b)) : WalAt w' lb p D G' ∧ Goes (wown p lb) w w' (wown p lb) := by
  subst hw
  refine ⟨⟨h.disk.keep fun k hk => setRow_other _ _ _ _ (fun e => h.far (e ▸ hk)), setRow_heap w _ _ _ _ _ h.log, h.far, hok⟩, (Goes.refl _ w).setRow (.inl (.inr rfl)) _⟩
theorem WalAt.cell6 : w.setCell ⟨lb, 6, none⟩ (.bool false) = w.setRow lb (LG.cells { G with sound := false } p.b) := by rw [setCell_eq_setRow w lb 6 _ _ _ _ h.log]; rfl
theorem WalAt.cell3 (e : Nat) : w.setCell ⟨lb, 3, none⟩ (.int .i64 (e : Int)) = w.setRow lb (LG.cells { G with epoch := e } p.b) := by rw [setCell_eq_setRow w lb 3 _ _ _ _ h.log]; rfl
theorem WalAt.cell4 (e : Nat) : w.setCell ⟨lb, 4, none⟩ (.int .i64 (e : Int)) = w.setRow lb (LG.cells { G with count := e } p.b) := by rw [setCell_eq_setRow w lb 4 _ _ _ _ h.log]; rfl
theorem WalAt.cell5 (e : Nat) : w.setCell ⟨lb, 5, none⟩ (.int .i64 (e : Int)) = w.setRow lb (LG.cells { G with used := e } p.b) := by rw [setCell_eq_setRow w lb 5 _ _ _ _ h.log]; rfl
theorem WalAt.cell45 (c u : Nat) : (w.setCell ⟨lb, 4, none⟩ (.int .i64 (c : Int))).setCell ⟨lb, 5, none⟩ (.int .i64 (u : Int)) = w.setRow lb (LG.cells { G with count := c, used := u } p.b) := by
  have e1 := h.cell4 c
  have b1 : (w.setRow lb (LG.cells { G with count := c } p.b)).heap[lb]? = some (.cells (LG.cells { G with count := c } p.b) 90 (0, 0)) := setRow_heap w _ _ _ _ _ h.log
  rw [e1, setCell_eq_setRow _ lb 5 _ _ _ _ b1, setRow_setRow]
  rfl
end

/-- What a call leaves that touches nothing that was there. -/
theorem Goes.below' {own : Nat → Prop} {w w' : World} (h : Below w.heap.size w w') : Goes own w w' own := ⟨h.os, h.tape, h.output, h.size, fun k hk _ => h.block k hk, fun _ hk => .inl hk⟩

/-! ### Room, heed -/
set_option maxHeartbeats 1000000 in
theorem room_any (w : World) (lb : Nat) (p : DP) (D : SD) (G : LG) (h : WalAt w lb p D G) : Calls Try.prog 44 #[.pointer (some ⟨lb, 0, none⟩)] w fun e w' => e = .returned (.int .i64 ((G.n : Int) - (G.used : Int))) ∧ Below w.heap.size w w' := by
  have l2 := h.l2
  have l5 := h.l5
  have hn : (G.n : Int) ≤ 256 := by have := h.ok.fit; omega
  have hu : (G.used : Int) ≤ 256 := by have := h.ok.fit; have := h.ok.use; omega
  clear h
  generalize G.n = n at *
  generalize G.used = u at *
  go_enter Try.func44, Try.ntmps44
  go_wp2_with fail
  go_region
  all_goals (try go_wp2_with fail)
  all_goals (go_ret; exact ⟨rfl, by first | exact (Below.refl _ _).drew | exact Below.refl _ _⟩)

theorem heed_any (w : World) (lb : Nat) (p : DP) (D : SD) (G : LG) (h : WalAt w lb p D G) (e : Int) : Calls Try.prog 71 #[.pointer (some ⟨lb, 0, none⟩), .int .i64 e] w fun r w' =>
    r = .returned (.int .i64 e) ∧ WalAt w' lb p D (G.heed e) ∧ Goes (wown p lb) w w' (wown p lb) := by
  by_cases he : e = 0
  · have hb : (e != 0) = false := by simpa using he
    have e1 : G.heed e = G := by unfold LG.heed; rw [if_pos he]
    rw [e1]
    have H := hid h
    clear h e1
    go_enter Try.func71, Try.ntmps71
    go_wp2_with fail
    go_ret
    exact ⟨rfl, H.out, Goes.refl _ _⟩
  · have hb : (e != 0) = true := by simpa using he
    have e1 : G.heed e = { G with sound := false } := by unfold LG.heed; rw [if_neg he]
    have H := hid (h.set (G' := { G with sound := false }) (e1 ▸ heed_ok h.ok e) h.cell6)
    rw [e1]
    have l6 := h.l6
    have f6 := h.lf 6
    clear h e1
    go_enter Try.func71, Try.ntmps71
    go_wp2_with fail
    go_ret
    exact ⟨rfl, H.out⟩

/-! ### The plain model -/
def wlWrite (D : SD) (G : LG) (a : Nat) (s : ByteArray) : Int × SD × LG := ((D.write ((G.frm : Int) + a) s).1, (D.write ((G.frm : Int) + a) s).2, G.heed (D.write ((G.frm : Int) + a) s).1)
def wlFlush (D : SD) (G : LG) : Int × SD × LG := (D.flush.1, D.flush.2, G.heed D.flush.1)
def wlSafe (D : SD) (G : LG) (a : Nat) (s : ByteArray) : Int × SD × LG := if (wlWrite D G a s).1 = 0 then wlFlush (wlWrite D G a s).2.1 (wlWrite D G a s).2.2 else wlWrite D G a s
def wlUp (x : Int × SD × LG) : Int × SD × LG := if x.1 = 0 then (0, x.2.1, { x.2.2 with epoch := x.2.2.epoch + 1 }) else x
def wlRaise (D : SD) (G : LG) : Int × SD × LG := if G.epoch = 1000000 then (8, D, G) else wlUp (wlSafe D G 0 (anchorB ((G.epoch + 1 : Nat) : Int)))
def wlSync (D : SD) (G : LG) : Int × SD × LG := if G.sound then wlFlush D G else (10, D, G)

/-- What a call of a log's own leaves. -/
def WPost (w : World) (lb : Nat) (p : DP) (x : Int × SD × LG) (r : Ending) (w' : World) : Prop := ∃ p' : DP, p'.b = p.b ∧ r = .returned (.int .i64 x.1) ∧ WalAt w' lb p' x.2.1 x.2.2 ∧ Goes (wown p lb) w w' (wown p' lb)

def few (D : SD) : Prop := D.loose.length ≤ 3000000000000
theorem few_room {D : SD} (h : few D) : ((D.loose.length + 1) + (D.loose.length + 1) / 4 + 192) * 72 ≤ 281474976710656 := by unfold few at h; omega

set_option maxHeartbeats 2000000 in
theorem lwrite_any (w : World) (lb : Nat) (p : DP) (D : SD) (G : LG) (h : WalAt w lb p D G) (a : Nat) (ha : a ≤ 256) (s : ByteArray) (hf : few D) :
    Calls Try.prog 68 #[.pointer (some ⟨lb, 0, none⟩), .int .i64 (a : Int), .string s] w (WPost w lb p (wlWrite D G a s)) := by
  have KW := hid fun W (hW : DiskAt W p D) => write_any W p D hW ((G.frm : Int) + a) s (few_room hf)
  have KH := hid fun W p' D' (hW : WalAt W lb p' D' G) e => heed_any W lb p' D' G hW e
  have l0 := h.l0
  have l1 := h.l1
  have l0' : w.drew.cell? ⟨lb, 0, none⟩ = some (.pointer (some ⟨p.b, 0, none⟩)) := h.drew.l0
  have l1' : w.drew.cell? ⟨lb, 1, none⟩ = some (.int .i64 (G.frm : Int)) := h.drew.l1
  have hfr : (G.frm : Int) ≤ 256 := by have := h.ok.fit; omega
  have ha' : (a : Int) ≤ 256 := by omega
  have hw : IntKind.i64.wrap ((G.frm : Int) + (a : Int)) = (G.frm : Int) + (a : Int) := IntWalk.i64_in _ ⟨by omega, by omega⟩
  have H := hid h.drew
  unfold WPost wlWrite
  generalize D.write ((G.frm : Int) + a) s = X at *
  clear h hf
  go_enter Try.func68, Try.ntmps68
  go_wp2_with fail
  go_region_held3 (fun W => W.cell? ⟨lb, 0, none⟩ = some (.pointer (some ⟨p.b, 0, none⟩)) ∧ W.cell? ⟨lb, 1, none⟩ = some (.int .i64 (G.frm : Int)))
    (first | (go_split_ands; exact ⟨by assumption, by assumption⟩))
    ((first | (go_at_call 51; refine (KW.out _ H.out.disk).mono ?_; rintro r w1 ⟨p', hp', rfl, h1, g1⟩; have S1 := hid (H.out.step hp' h1 g1); have HP := hid hp'; have m0 := S1.out.1.l0; have m1 := S1.out.1.l1; rw [hp'] at m0; clear h1 g1 hp') | (go_at_call 71; refine (KH.out _ _ _ S1.out.1 _).mono ?_; rintro r w2 ⟨rfl, h2, g2⟩; have S2 := hid h2; have G2 := hid g2; have m0 := S2.out.l0; have m1 := S2.out.l1; rw [HP.out] at m0; rw [heed_frm] at m1; clear h2 g2)))
  all_goals skip
  go_wp2_with fail
  go_ret
  exact ⟨p', HP.out, rfl, S2.out, ((Goes.refl _ w).drew.trans S1.out.2).trans G2.out⟩

theorem wlWrite_few {D : SD} {G : LG} {a : Nat} {s : ByteArray} (h : D.loose.length + 1 ≤ 3000000000000) : few (wlWrite D G a s).2.1 := by
  unfold few wlWrite SD.write
  simp only
  repeat' split
  all_goals (try (show D.loose.length ≤ _; omega))
  show (D.burn.loose ++ [_]).length ≤ _
  have : D.burn.loose = D.loose := by unfold SD.burn; split <;> rfl
  rw [List.length_append, this]
  exact h

theorem lflush_any (w : World) (lb : Nat) (p : DP) (D : SD) (G : LG) (h : WalAt w lb p D G) : Calls Try.prog 54 #[.pointer (some ⟨p.b, 0, none⟩)] w fun e w' =>
    ∃ p' : DP, p'.b = p.b ∧ e = .returned (.int .i64 D.flush.1) ∧ WalAt w' lb p' D.flush.2 G ∧ Goes (wown p lb) w w' (wown p' lb) := by
  refine (flush_any w p D h.disk).mono ?_
  rintro e w' ⟨p', hp, rfl, hd, g⟩
  have := h.step hp hd g
  exact ⟨p', hp, rfl, this.1, this.2⟩

set_option maxHeartbeats 2000000 in
theorem lsafe_any (w : World) (lb : Nat) (p : DP) (D : SD) (G : LG) (h : WalAt w lb p D G) (a : Nat) (ha : a ≤ 256) (s : ByteArray) (hf : few D) :
    Calls Try.prog 72 #[.pointer (some ⟨lb, 0, none⟩), .int .i64 (a : Int), .string s] w (WPost w lb p (wlSafe D G a s)) := by
  have KW := hid (lwrite_any w lb p D G h a ha s hf)
  have KF := hid fun W p' D' G' (hW : WalAt W lb p' D' G') => lflush_any W lb p' D' G' hW
  have KH := hid fun W p' D' G' (hW : WalAt W lb p' D' G') e => heed_any W lb p' D' G' hW e
  unfold wlSafe
  obtain ⟨c, D1, G1, hX⟩ : ∃ c D1 G1, wlWrite D G a s = (c, D1, G1) := ⟨_, _, _, rfl⟩
  rw [hX] at KW ⊢
  clear hX h hf
  by_cases hc : c = 0
  · subst hc
    rw [if_pos rfl]
    simp only
    unfold wlFlush
    go_enter Try.func72, Try.ntmps72
    go_wp2_with fail
    refine KW.out.mono ?_
    rintro r w1 ⟨p1, hp1, rfl, h1, g1⟩
    have l0 := h1.l0
    have H1 := hid h1
    have G1' := hid g1
    have HP1 := hid hp1
    clear h1 g1 hp1
    go_wp2_with fail
    refine (KF.out _ _ _ _ H1.out).mono ?_
    rintro r w2 ⟨p2, hp2, rfl, h2, g2⟩
    have H2 := hid h2
    have G2' := hid g2
    have HP2 := hid hp2
    clear h2 g2 hp2 l0
    generalize D1.flush = X at *
    go_wp2_with fail
    refine (KH.out _ _ _ _ H2.out _).mono ?_
    rintro r w3 ⟨rfl, h3, g3⟩
    have H3 := hid h3
    have G3' := hid g3
    clear h3 g3
    go_wp2_with fail
    go_ret
    exact ⟨p2, HP2.out.trans HP1.out, rfl, H3.out, (G1'.out.trans G2'.out).trans G3'.out⟩
  · rw [if_neg hc]
    have hc' : (c != 0) = true := by simpa using hc
    go_enter Try.func72, Try.ntmps72
    go_wp2_with fail
    refine KW.out.mono ?_
    rintro r w1 ⟨p1, hp1, rfl, h1, g1⟩
    have H1 := hid h1
    have G1' := hid g1
    have HP1 := hid hp1
    clear h1 g1 hp1
    go_wp2_with fail
    go_ret
    exact ⟨p1, HP1.out, rfl, H1.out, G1'.out⟩

theorem wlSafe_epoch (D : SD) (G : LG) (a : Nat) (s : ByteArray) : (wlSafe D G a s).2.2.epoch = G.epoch := by
  unfold wlSafe wlFlush wlWrite
  simp only
  split
  · rw [heed_epoch, heed_epoch]
  · rw [heed_epoch]

set_option maxHeartbeats 2000000 in
theorem raise_any (w : World) (lb : Nat) (p : DP) (D : SD) (G : LG) (h : WalAt w lb p D G) (hf : few D) :
    Calls Try.prog 62 #[.pointer (some ⟨lb, 0, none⟩)] w (WPost w lb p (wlRaise D G)) := by
  have l3 := h.l3
  have htop := h.ok.top
  unfold wlRaise
  by_cases he : G.epoch = 1000000
  · rw [if_pos he]
    rw [he] at l3
    have H := hid h
    clear h he
    go_enter Try.func62, Try.ntmps62
    go_wp2_with fail
    go_ret
    exact ⟨p, rfl, rfl, H.out, Goes.refl _ _⟩
  · rw [if_neg he]
    have he1 : ((G.epoch : Int) == 1000000) = false := by simp; omega
    have he2 : (G.epoch == 1000000) = false := by simp; omega
    have hle : (G.epoch : Int) + 1 ≤ 1000000 := by omega
    have ht : (G.epoch : Int) ≤ 1000000 := by omega
    have KA := hid fun W => putAnchor_any ((G.epoch : Int) + 1) W (by unfold Wl.I64; omega)
    have KS := hid fun W (hW : WalAt W lb p D G) => lsafe_any W lb p D G hW 0 (by omega) (anchorB ((G.epoch : Int) + 1)) hf
    have hep := wlSafe_epoch D G 0 (anchorB ((G.epoch : Int) + 1))
    rw [show ((G.epoch + 1 : Nat) : Int) = (G.epoch : Int) + 1 by omega]
    obtain ⟨c, D1, G1, hX⟩ : ∃ c D1 G1, wlSafe D G 0 (anchorB ((G.epoch : Int) + 1)) = (c, D1, G1) := ⟨_, _, _, rfl⟩
    rw [hX] at KS hep ⊢
    simp only at hep
    have H := hid h
    generalize anchorB ((G.epoch : Int) + 1) = A at *
    clear h hX hf
    unfold wlUp
    by_cases hc : c = 0
    · subst hc
      simp only
      rw [if_pos trivial]
      go_enter Try.func62, Try.ntmps62
      go_wp2_with fail
      refine (KA.out _).mono ?_
      rintro r w1 ⟨rfl, hb1⟩
      have B1 := hid hb1
      clear hb1
      go_wp2_with fail
      refine (KS.out _ (H.out.below B1.out)).mono ?_
      rintro r w2 ⟨p2, hp2, rfl, h2, g2⟩
      have m3 := h2.l3
      have f3 := h2.lf 3
      rw [hep] at m3
      have c3 := h2.cell3 (G.epoch + 1)
      rw [show ((G.epoch + 1 : Nat) : Int) = (G.epoch : Int) + 1 by omega] at c3
      have S3 := h2.set (G' := { G1 with epoch := G.epoch + 1 }) ⟨h2.ok.n2, h2.ok.fit, by show G.epoch + 1 ≤ _; omega, h2.ok.cnt, h2.ok.use⟩ c3
      have HS := hid S3
      have G2' := hid g2
      have HP2 := hid hp2
      have HEP := hid hep
      clear h2 g2 hp2 c3 S3 hep
      go_wp2_with fail
      go_ret
      exact ⟨p2, HP2.out, rfl, by rw [HEP.out]; exact HS.out.1, ((Goes.below' B1.out).trans G2'.out).trans HS.out.2⟩
    · simp only
      rw [if_neg hc]
      have hc' : (c != 0) = true := by simpa using hc
      go_enter Try.func62, Try.ntmps62
      go_wp2_with fail
      refine (KA.out _).mono ?_
      rintro r w1 ⟨rfl, hb1⟩
      have B1 := hid hb1
      clear hb1
      go_wp2_with fail
      refine (KS.out _ (H.out.below B1.out)).mono ?_
      rintro r w2 ⟨p2, hp2, rfl, h2, g2⟩
      have H2 := hid h2
      have G2' := hid g2
      have HP2 := hid hp2
      clear h2 g2 hp2
      go_wp2_with fail
      go_ret
      exact ⟨p2, HP2.out, rfl, H2.out, (Goes.below' B1.out).trans G2'.out⟩

set_option maxHeartbeats 2000000 in
theorem sync_any (w : World) (lb : Nat) (p : DP) (D : SD) (G : LG) (h : WalAt w lb p D G) :
    Calls Try.prog 38 #[.pointer (some ⟨lb, 0, none⟩)] w (WPost w lb p (wlSync D G)) := by
  have KF := hid (lflush_any w lb p D G h)
  have KH := hid fun W p' D' G' (hW : WalAt W lb p' D' G') e => heed_any W lb p' D' G' hW e
  have l6 := h.l6
  have l0 := h.l0
  unfold wlSync
  have H := hid h
  clear h
  by_cases hs : G.sound = true
  · rw [if_pos hs]
    rw [hs] at l6
    clear hs
    unfold wlFlush
    generalize D.flush = X at *
    go_enter Try.func38, Try.ntmps38
    go_wp2_with fail
    refine KF.out.mono ?_
    rintro r w2 ⟨p2, hp2, rfl, h2, g2⟩
    have H2 := hid h2
    have G2' := hid g2
    have HP2 := hid hp2
    clear h2 g2 hp2 l0
    go_wp2_with fail
    refine (KH.out _ _ _ _ H2.out _).mono ?_
    rintro r w3 ⟨rfl, h3, g3⟩
    have H3 := hid h3
    have G3' := hid g3
    clear h3 g3
    go_wp2_with fail
    go_ret
    exact ⟨p2, HP2.out, rfl, H3.out, G2'.out.trans G3'.out⟩
  · rw [if_neg hs]
    have hs' : G.sound = false := by simpa using hs
    rw [hs'] at l6
    clear hs hs'
    go_enter Try.func38, Try.ntmps38
    go_wp2_with fail
    go_ret
    exact ⟨p, rfl, rfl, H.out, Goes.refl _ _⟩

end Go.Proofs.Ythfpinjegfgeiaa
