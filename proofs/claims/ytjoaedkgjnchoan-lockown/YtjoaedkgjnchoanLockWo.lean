/- lock.without, walked: the item with the locks of others, in rows of its own; nothing that was there has turned. Conditions: how many locks there are. -/
import Derived.Test.YtjoaedkgjnchoanLockDlF
import Derived.Test.YtjoaedkgjnchoanLockApp
import Derived.Test.YtjoaedkgjnchoanLockArr
import Derived.Deep.CutRange
namespace Go.Proofs.Ytjoaedkgjnchoan.PLock
open Go Go.RowKit PPool
set_option maxRecDepth 100000

/-- A cell of an item's box laid over. -/
theorem ArrAt.put3 {w : World} {b : Nat} {x y z : Value} (h : ArrAt w b #[x, y, z]) (v : Value) : ArrAt (w.setCell ⟨b, 1, none⟩ v) b #[x, v, z] ∧ ArrAt (w.setCell ⟨b, 2, none⟩ v) b #[x, y, v] := ⟨h.put 1 v, h.put 2 v⟩
theorem ArrAt.all3 {w : World} {b : Nat} {x y z : Value} (h : ArrAt w b #[x, y, z]) : w.cell? ⟨b, 0, none⟩ = some x ∧ w.cell? ⟨b, 1, none⟩ = some y ∧ w.cell? ⟨b, 2, none⟩ = some z ∧ w.frozen? ⟨b, 0, none⟩ = false ∧ w.frozen? ⟨b, 1, none⟩ = false ∧ w.frozen? ⟨b, 2, none⟩ = false :=
  ⟨h.cell rfl, h.cell rfl, h.cell rfl, h.fz 0, h.fz 1, h.fz 2⟩
theorem ArrAt.goes {w w' : World} {own own' : Nat → Prop} {b : Nat} {A : Array Value} (h : ArrAt w b A) (hg : Goes own w w' own') (hn : ¬ own b) : ArrAt w' b A := h.keep (hg.block b h.lt hn)
theorem OwnLk.goes {w w' : World} {own own' : Nat → Prop} {base : Nat} {v : Value} {L : List Lk.Lo} (h : OwnLk w base v L) (hg : Goes own w w' own') (hn : ∀ g, v.ownBlock = Option.some g → ¬ own g) : OwnLk w' base v L := h.keep fun g hv => hg.block g (h.lt g hv).2 (hn g hv)
theorem below_goes {B : Nat} {w w1 w2 : World} {own own' : Nat → Prop} (h : Below B w w1) (hg : Goes own w1 w2 own') (hB : B ≤ w1.heap.size) (hn : ∀ g, own g → B ≤ g) : Below B w w2 :=
  ⟨hg.os.trans h.os, hg.tape.trans h.tape, hg.output.trans h.output, Nat.le_trans h.size hg.size, fun k hk => (hg.block k (by omega) (fun ho => by have := hn k ho; omega)).trans (h.block k hk)⟩

set_option maxHeartbeats 4000000 in
theorem without_any (w : World) (i : Int) (vh vq : Value) (H Q : List Lk.Lo) (t : Int) (hh : LsAt w vh H) (hq : LsAt w vq Q) (lH : H.length ≤ 2000) (lQ : Q.length ≤ 2000) :
    Calls Try.prog 52 #[.agg #[.int .i64 i, vh, vq], .int .i64 t] w fun e w' => ∃ vh' vq', e = .returned (.agg #[.int .i64 i, vh', vq']) ∧ OwnLk w' w.heap.size vh' (Lk.less H t) ∧ OwnLk w' w.heap.size vq' (Lk.less Q t) ∧ (∀ g, vh'.ownBlock = some g → vq'.ownBlock ≠ some g) ∧ Below w.heap.size w w' := by
  have HH := hid hh
  have HQ := hid hq
  obtain ⟨ah, ch, rfl, _⟩ := hh
  obtain ⟨aq, cq, rfl, _⟩ := hq
  generalize hnh : H.length = nh at *
  generalize hnq : Q.length = nq at *
  have KC := hid fun W v L h hl => copyOf_any W v L h hl
  have LH : Hid (H.length ≤ 2000) := by show _ ≤ _; omega
  have LQ : Hid (Q.length ≤ 2000) := by show _ ≤ _; omega
  clear hnh hnq lH lQ
  obtain ⟨B, hB⟩ : ∃ B, B = w.heap.size := ⟨_, rfl⟩
  have st : ∀ w1, Below (((w.alloc (.cells #[.int .i64 i, .slice ah nh ch, .slice aq nq cq] 66)).alloc (.cells #[.int .i64 t] 3)).alloc (.cells #[.int .i64 0, .slice none 0 0, .slice none 0 0] 66)).heap.size (((w.alloc (.cells #[.int .i64 i, .slice ah nh ch, .slice aq nq cq] 66)).alloc (.cells #[.int .i64 t] 3)).alloc (.cells #[.int .i64 0, .slice none 0 0, .slice none 0 0] 66)) w1 →
      Hid (ArrAt w1 B #[.int .i64 i, .slice ah nh ch, .slice aq nq cq] ∧ w1.cell? ⟨B + 1, 0, none⟩ = some (.int .i64 t) ∧ ArrAt w1 (B + 1 + 1) #[.int .i64 0, .slice none 0 0, .slice none 0 0] ∧ Below w.heap.size w w1 ∧ B + 3 ≤ w1.heap.size) := fun w1 hw => by
    have hs := hw.size
    simp only [World.size_alloc] at hs
    refine ⟨?_, ?_, ?_, below_tr (below_tr (bx _ _) (below_tr (bx _ _) (bx _ _))) hw, by omega⟩
    · rw [hB]; exact (((ArrAt.new w _ 66).below (bx _ _)).below (bx _ _)).below hw
    · have := (((ArrAt.new (w.alloc (.cells #[.int .i64 i, .slice ah nh ch, .slice aq nq cq] 66)) #[.int .i64 t] 3).below (bx _ (.cells #[.int .i64 0, .slice none 0 0, .slice none 0 0] 66))).below hw).cell (j := 0) (v := .int .i64 t) rfl
      simpa [hB] using this
    · have := (ArrAt.new ((w.alloc (.cells #[.int .i64 i, .slice ah nh ch, .slice aq nq cq] 66)).alloc (.cells #[.int .i64 t] 3)) #[.int .i64 0, .slice none 0 0, .slice none 0 0] 66).below hw
      simpa [hB] using this
  go_enter Try.func52, Try.ntmps52
  go_wp2_with fail
  refine (KC.out _ _ _ (HH.out.below (below_tr (bx _ _) (below_tr (bx _ _) (bx _ _)))) LH.out).mono ?_
  rintro r w1 ⟨v1, rfl, o1, b1⟩
  have F1 := st _ b1
  have O1 : Hid (OwnLk w1 (B + 3) v1 H) := o1.lower (by simp only [World.size_alloc]; omega)
  clear o1 b1 st KC
  have KC := hid fun W v L h hl => copyOf_any W v L h hl
  go_wp2_with fail
  have hB2 := hid hB
  rw [← hB]
  clear hB
  refine (deleteTx_any w1 (B + 3) v1 H ⟨B + 1, 0, none⟩ t O1.out F1.out.2.1 (fun e => by have := (O1.out.lt _ e).1; simp at this) LH.out).mono ?_
  rintro r w2 ⟨v2, rfl, o2, e2, g2⟩
  have hv1 : Hid (∀ g, v1.ownBlock = some g → B + 3 ≤ g) := fun g hg => (O1.out.lt g hg).1
  have F2 : Hid (ArrAt w2 B #[.int .i64 i, .slice ah nh ch, .slice aq nq cq] ∧ w2.cell? ⟨B + 1, 0, none⟩ = some (.int .i64 t) ∧ ArrAt w2 (B + 1 + 1) #[.int .i64 0, .slice none 0 0, .slice none 0 0] ∧ Below w.heap.size w w2 ∧ B + 3 ≤ w2.heap.size) := by
    obtain ⟨f1, f2, f3, f4, f5⟩ := F1.out
    have n : ∀ k, k < B + 3 → ¬ ownB v1 k := fun k hk h => by have := hv1.out k h; omega
    refine ⟨f1.goes g2 (n _ (by omega)), (World.cell?_of_block (g2.block _ (by show B + 1 < _; omega) (n _ (by show B + 1 < _; omega)))).trans f2, f3.goes g2 (n _ (by omega)), below_goes f4 g2 (by rw [← hB2.out]; omega) (fun g hg => by have := hv1.out g hg; rw [← hB2.out]; omega), Nat.le_trans f5 g2.size⟩
  have O2 : Hid (OwnLk w2 (B + 3) v2 (Lk.less H t)) := o2
  obtain ⟨a2, c2, rfl, _⟩ := o2.at_
  clear o2 g2 F1 O1 hv1 e2
  obtain ⟨c0, c1, cc2, z0, z1, z2⟩ := F2.out.1.all3
  have F3 : Hid (ArrAt (w2.setCell ⟨B, 1, none⟩ (.slice a2 (Lk.less H t).length c2)) B #[.int .i64 i, .slice a2 (Lk.less H t).length c2, .slice aq nq cq] ∧ (w2.setCell ⟨B, 1, none⟩ (.slice a2 (Lk.less H t).length c2)).cell? ⟨B + 1, 0, none⟩ = some (.int .i64 t) ∧ ArrAt (w2.setCell ⟨B, 1, none⟩ (.slice a2 (Lk.less H t).length c2)) (B + 1 + 1) #[.int .i64 0, .slice none 0 0, .slice none 0 0] ∧ Below w.heap.size w (w2.setCell ⟨B, 1, none⟩ (.slice a2 (Lk.less H t).length c2)) ∧ B + 3 ≤ (w2.setCell ⟨B, 1, none⟩ (.slice a2 (Lk.less H t).length c2)).heap.size) := by
    obtain ⟨f1, f2, f3, f4, f5⟩ := F2.out
    refine ⟨(f1.put3 _).1, (World.cell?_of_block (Below.heap_setCell _ _ _ _ (by show B + 1 ≠ B; omega))).trans f2, f3.keep (Below.heap_setCell _ _ _ _ (by show B + 1 + 1 ≠ B; omega)), f4.setCell (p := ⟨B, 1, none⟩) (by show _ ≤ B; rw [hB2.out]; exact Nat.le_refl _) _, by simpa [World.setCell] using f5⟩
  have O3 : Hid (OwnLk (w2.setCell ⟨B, 1, none⟩ (.slice a2 (Lk.less H t).length c2)) (B + 3) (.slice a2 (Lk.less H t).length c2) (Lk.less H t)) := O2.out.keep fun g hg => Below.heap_setCell _ _ _ _ (by have := (O2.out.lt g hg).1; show g ≠ B; omega)
  obtain ⟨N2, hN2⟩ : ∃ n, n = (Lk.less H t).length := ⟨_, rfl⟩
  rw [← hN2] at F3 O3 ⊢
  clear F2 O2
  have HN2 := hid hN2
  clear hN2
  go_wp2_with fail
  generalize w2.setCell ⟨B, 1, none⟩ (.slice a2 N2 c2) = w3 at *
  have LQ3 : LsAt w3 (.slice aq nq cq) Q := HQ.out.below F3.out.2.2.2.1
  refine (KC.out _ _ _ LQ3 LQ.out).mono ?_
  rintro r w4 ⟨v4, rfl, o4, b4⟩
  have O4 : Hid (OwnLk w4 (B + 3) v4 Q) := o4.lower F3.out.2.2.2.2
  have O4h : Hid (OwnLk w4 (B + 3) (.slice a2 N2 c2) (Lk.less H t)) := O3.out.below b4
  have hap : Hid (∀ g, (Value.slice a2 N2 c2).ownBlock = some g → v4.ownBlock ≠ some g) := fun g h1 h2 => by
    have := (O3.out.lt g h1).2
    have := (o4.lt g h2).1
    omega
  have F4 : Hid (ArrAt w4 B #[.int .i64 i, .slice a2 N2 c2, .slice aq nq cq] ∧ w4.cell? ⟨B + 1, 0, none⟩ = some (.int .i64 t) ∧ ArrAt w4 (B + 1 + 1) #[.int .i64 0, .slice none 0 0, .slice none 0 0] ∧ Below w.heap.size w w4 ∧ B + 3 ≤ w4.heap.size) := by
    obtain ⟨f1, f2, f3, f4, f5⟩ := F3.out
    exact ⟨f1.below b4, keep1 b4 f2, f3.below b4, below_tr f4 b4, Nat.le_trans f5 b4.size⟩
  clear o4 b4 O3 F3 KC LQ3 c0 c1 cc2 z0 z1 z2
  go_wp2_with fail
  refine (deleteTx_any w4 (B + 3) v4 Q ⟨B + 1, 0, none⟩ t O4.out F4.out.2.1 (fun e => by have := (O4.out.lt _ e).1; simp at this) LQ.out).mono ?_
  rintro r w5 ⟨v5, rfl, o5, e5, g5⟩
  have hv4 : Hid (∀ g, v4.ownBlock = some g → B + 3 ≤ g) := fun g hg => (O4.out.lt g hg).1
  have F5 : Hid (ArrAt w5 B #[.int .i64 i, .slice a2 N2 c2, .slice aq nq cq] ∧ ArrAt w5 (B + 1 + 1) #[.int .i64 0, .slice none 0 0, .slice none 0 0] ∧ Below w.heap.size w w5) := by
    obtain ⟨f1, f2, f3, f4, f5⟩ := F4.out
    have n : ∀ k, k < B + 3 → ¬ ownB v4 k := fun k hk h => by have := hv4.out k h; omega
    exact ⟨f1.goes g5 (n _ (by omega)), f3.goes g5 (n _ (by omega)), below_goes f4 g5 (by rw [← hB2.out]; omega) (fun g hg => by have := hv4.out g hg; rw [← hB2.out]; omega)⟩
  have O5 : Hid (OwnLk w5 (B + 3) v5 (Lk.less Q t)) := o5
  have O5h : Hid (OwnLk w5 (B + 3) (.slice a2 N2 c2) (Lk.less H t)) := O4h.out.goes g5 (fun g hg => hap.out g hg)
  have hap5 : Hid (∀ g, (Value.slice a2 N2 c2).ownBlock = some g → v5.ownBlock ≠ some g) := fun g h1 => by rw [e5]; exact hap.out g h1
  obtain ⟨a5, c5, rfl, _⟩ := o5.at_
  clear o5 g5 F4 O4 O4h hap hv4 e5
  obtain ⟨c0, c1, cc2, z0, z1, z2⟩ := F5.out.1.all3
  obtain ⟨y0, y1, y2, x0, x1, x2⟩ := F5.out.2.1.all3
  obtain ⟨N5, hN5⟩ : ∃ n, n = (Lk.less Q t).length := ⟨_, rfl⟩
  rw [← hN5] at O5 hap5 ⊢
  have HN5 := hid hN5
  clear hN5
  go_wp2_with fail
  have fin : ArrAt ((((w5.setCell ⟨B, 2, none⟩ (.slice a5 N5 c5)).setCell ⟨B + 1 + 1, 0, none⟩ (.int .i64 i)).setCell ⟨B + 1 + 1, 1, none⟩ (.slice a2 N2 c2)).setCell ⟨B + 1 + 1, 2, none⟩ (.slice a5 N5 c5)) (B + 1 + 1) #[.int .i64 i, .slice a2 N2 c2, .slice a5 N5 c5] := by
    have h0 : ArrAt (w5.setCell ⟨B, 2, none⟩ (.slice a5 N5 c5)) (B + 1 + 1) #[.int .i64 0, .slice none 0 0, .slice none 0 0] := F5.out.2.1.keep (Below.heap_setCell _ _ _ _ (by show B + 1 + 1 ≠ B; omega))
    exact ((h0.put 0 _).put 1 _).put 2 _
  have keep : ∀ (v : Value) (L : List Lk.Lo), OwnLk w5 (B + 3) v L → OwnLk ((((w5.setCell ⟨B, 2, none⟩ (.slice a5 N5 c5)).setCell ⟨B + 1 + 1, 0, none⟩ (.int .i64 i)).setCell ⟨B + 1 + 1, 1, none⟩ (.slice a2 N2 c2)).setCell ⟨B + 1 + 1, 2, none⟩ (.slice a5 N5 c5)) w.heap.size v L := fun v L h => by
    refine (h.keep fun g hg => ?_).lower (by rw [← hB2.out]; omega)
    have hl := (h.lt g hg).1
    rw [Below.heap_setCell _ _ _ _ (by show g ≠ B + 1 + 1; omega), Below.heap_setCell _ _ _ _ (by show g ≠ B + 1 + 1; omega), Below.heap_setCell _ _ _ _ (by show g ≠ B + 1 + 1; omega), Below.heap_setCell _ _ _ _ (by show g ≠ B; omega)]
  have bel := (((F5.out.2.2.setCell (p := ⟨B, 2, none⟩) (by show _ ≤ B; rw [hB2.out]; exact Nat.le_refl _) (.slice a5 N5 c5)).setCell (p := ⟨B + 1 + 1, 0, none⟩) (by show _ ≤ B + 1 + 1; rw [← hB2.out]; omega) (.int .i64 i)).setCell (p := ⟨B + 1 + 1, 1, none⟩) (by show _ ≤ B + 1 + 1; rw [← hB2.out]; omega) (.slice a2 N2 c2)).setCell (p := ⟨B + 1 + 1, 2, none⟩) (by show _ ≤ B + 1 + 1; rw [← hB2.out]; omega) (.slice a5 N5 c5)
  exact bodyPost_ret (fin.result1 rfl rfl Try.underlying66 rfl rfl) rfl ⟨_, _, rfl, keep _ _ O5h.out, keep _ _ O5.out, hap5.out, bel⟩
end Go.Proofs.Ytjoaedkgjnchoan.PLock
