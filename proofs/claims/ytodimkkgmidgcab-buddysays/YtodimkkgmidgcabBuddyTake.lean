/- buddy.tightest, with and Take, walked: each answers what the plain functions say; what is taken then lies in a row of its own; nothing else that was there has turned. Conditions: how many blocks there are. -/
import Derived.Test.YtodimkkgmidgcabBuddyIns
namespace Go.Proofs.Ytodimkkgmidgcab.PBuddy
open Go Go.RowKit PPool
set_option maxRecDepth 100000

set_option maxHeartbeats 1000000 in
theorem tightest_any (w : World) (a : Option Addr) (c : Nat) (F : List Bd.Bk) (o : Int) (h : PgAt w a F) (hl : F.length ≤ 2000) :
    Calls Try.prog 19 #[.slice a F.length c, .int .i64 o] w fun e w' => ∃ b, e = .returned (.int .i64 b) ∧ Bd.Tg F o F.length b ∧ Below w.heap.size w w' := by
  have H := hid h
  clear h
  go_enter Try.func19, Try.ntmps19
  go_wp2_with fail
  go_loopw [10, 5] (fun i u wr => ∃ (k : Nat) (b : Int), k ≤ F.length ∧ i = .int .i64 (k : Int) ∧ u = .int .i64 b ∧ Hid (Bd.Tg F o k b) ∧ Hid (Below w.heap.size w wr)) (fun i _ _ => F.length - (intOf i).toNat)
  case atStart => exact ⟨0, -1, Nat.zero_le _, rfl, rfl, hid (Bd.Tg.start F o), Below.refl _ _⟩
  case round =>
    obtain ⟨k, b, hk, rfl, rfl, hT, hb⟩ := hrel
    by_cases hlt : k < F.length
    · obtain ⟨y, hy⟩ : ∃ y, F[k]? = some y := ⟨_, List.getElem?_eq_getElem hlt⟩
      obtain ⟨bb, oo, rfl, d1, d2⟩ := (H.out.below hb.out) k y hy
      have k0 : (0 : Int) ≤ (k : Int) := by omega
      have k1 : (k : Int) < (F.length : Int) := by omega
      by_cases ho : o ≤ y.o
      · have j1 : decide (o ≤ y.o) = true := by simpa using ho
        rcases id hT.out with ⟨rfl, _⟩ | ⟨i, x, rfl, hi, ht⟩
        · have NT := hid (hT.out.next hy ho (.inl rfl))
          obtain ⟨ya, yo⟩ := y
          simp only at d1 d2 j1
          clear hT hy ho
          go_wp2_with fail
          go_quiet (fail)
          go_wp2_with fail
          go_roundw
          case rel => exact ⟨k + 1, (k : Int), by omega, by go_num, rfl, NT, hid (below_drewN (below_tr hb.out (bx _ _)) _)⟩
          case measure => simp [intOf]; omega
        · have hx := ht.at_
          rw [List.getElem?_take, if_pos hi] at hx
          obtain ⟨b2, o2, e2, d3, d4⟩ := (H.out.below hb.out) i x hx
          cases e2
          replace d3 := keep1 (bx wr (.cells #[.int .i64 y.a, .int .i64 y.o] 37)) d3
          replace d4 := keep1 (bx wr (.cells #[.int .i64 y.a, .int .i64 y.o] 37)) d4
          have i0 : (0 : Int) ≤ (i : Int) := by omega
          have i1 : (i : Int) < (F.length : Int) := by omega
          have j2 : decide ((i : Int) < 0) = false := by simp
          by_cases hlo : y.o < x.o
          · have NT := hid (hT.out.next hy ho (.inr ⟨i, x, rfl, hx, hlo⟩))
            have j3 : decide (y.o < x.o) = true := by simpa using hlo
            obtain ⟨ya, yo⟩ := y
            obtain ⟨xa, xo⟩ := x
            simp only at d1 d2 d3 d4 j1 j3
            clear hT hy ho hx ht hlo
            go_wp2_with fail
            go_quiet (fail)
            go_wp2_with fail
            go_roundw
            case rel => exact ⟨k + 1, (k : Int), by omega, by go_num, rfl, NT, hid (below_drewN (below_tr hb.out (bx _ _)) _)⟩
            case measure => simp [intOf]; omega
          · have NT := hid (hT.out.pass hy (.inr ⟨i, x, rfl, hx, by omega⟩))
            have j3 : decide (y.o < x.o) = false := by simpa using hlo
            obtain ⟨ya, yo⟩ := y
            obtain ⟨xa, xo⟩ := x
            simp only at d1 d2 d3 d4 j1 j3
            clear hT hy ho hx ht hlo
            go_wp2_with fail
            go_quiet (fail)
            go_wp2_with fail
            go_roundw
            case rel => exact ⟨k + 1, (i : Int), by omega, by go_num, rfl, NT, hid (below_drewN (below_tr hb.out (bx _ _)) _)⟩
            case measure => simp [intOf]; omega
      · have j1 : decide (o ≤ y.o) = false := by simpa using ho
        have NT := hid (hT.out.pass hy (.inl (by omega)))
        obtain ⟨ya, yo⟩ := y
        simp only at d1 d2 j1
        clear hT hy ho
        go_wp2_with fail
        go_quiet (fail)
        go_wp2_with fail
        go_roundw
        case rel => exact ⟨k + 1, b, by omega, by go_num, rfl, NT, hid (below_drewN (below_tr hb.out (bx _ _)) _)⟩
        case measure => simp [intOf]; omega
    · obtain rfl : k = F.length := by omega
      have j3 : decide ((F.length : Int) < (F.length : Int)) = false := by simp
      go_wp2_with fail
      go_ret
      exact ⟨b, rfl, hT.out, hb.out⟩

set_option maxHeartbeats 1000000 in
theorem with_any (w : World) (a : Option Addr) (c : Nat) (X : List Bd.Bk) (b : Bd.Bk) (h : PgAt w a X) (hl : X.length ≤ 2000) :
    Calls Try.prog 20 #[.slice a X.length c, .agg #[.int .i64 b.a, .int .i64 b.o]] w fun e w' => ∃ v, e = .returned v ∧ OwnPg w' w.heap.size v (Bd.ins X b) ∧ Below w.heap.size w w' := by
  obtain ⟨R, hR⟩ : ∃ R, R = Bd.ins X b := ⟨_, rfl⟩
  rw [← hR]
  have HR := hid hR
  have KC := hid fun W (hW : PgAt W a X) => clone_any W a c X hW (by omega)
  have KI := hid fun W base v i vb hO hv hn hi hB => insert_any W base v i vb X b hO hv hn hl hi hB
  have H := hid h
  obtain ⟨ba, bo⟩ := b
  clear h hR
  simp only
  go_enter Try.func20, Try.ntmps20
  go_wp2_with fail
  have hsz0 : (w.alloc (.cells #[.int .i64 ba, .int .i64 bo] 37)).heap.size = w.heap.size + 1 := by simp
  have B0 : Hid (Below w.heap.size w (w.alloc (.cells #[.int .i64 ba, .int .i64 bo] 37))) := bx _ _
  have BX := hid fun W1 (hb : Below (w.heap.size + 1) (w.alloc (.cells #[.int .i64 ba, .int .i64 bo] 37)) W1) => box2 (w := w) (T := 37) (w1 := W1) (by rw [hsz0]; exact hb)
  generalize w.alloc (.cells #[.int .i64 ba, .int .i64 bo] 37) = wb at *
  go_loopw [5] (fun i wr => ∃ k : Nat, k ≤ X.length ∧ i = .int .i64 (k : Int) ∧ Hid (∀ j x, j < k → X[j]? = some x → x.a < ba) ∧ Hid (Below (w.heap.size + 1) wb wr)) (fun i _ => X.length - (intOf i).toNat)
  case atStart => exact ⟨0, Nat.zero_le _, rfl, fun j x hj => by omega, Below.refl _ _⟩
  case round =>
    obtain ⟨k, hk, rfl, hO, hb⟩ := hrel
    obtain ⟨c0, c1⟩ := BX.out _ hb.out
    have hsz : w.heap.size + 1 ≤ wr.heap.size := by have := hb.out.size; omega
    have hbw : Below w.heap.size w wr := B0.out.trans (hb.out.mono (by omega))
    by_cases hlt : k < X.length
    · obtain ⟨x, hx⟩ : ∃ x, X[k]? = some x := ⟨_, List.getElem?_eq_getElem hlt⟩
      obtain ⟨bb, oo, rfl, d1, d2⟩ := (H.out.below hbw) k x hx
      have k0 : (0 : Int) ≤ (k : Int) := by omega
      have k1 : (k : Int) < (X.length : Int) := by omega
      have k2 : decide ((k : Int) < (X.length : Int)) = true := by simpa using k1
      have k3 : decide (k < X.length) = true := by simpa using hlt
      obtain ⟨xa, xo⟩ := x
      simp only at d1 d2
      by_cases hl2 : xa < ba
      · have NO : Hid (∀ j x, j < k + 1 → X[j]? = some x → x.a < ba) := fun j x hj hx' => by
          by_cases e : j = k
          · subst e
            rw [hx] at hx'
            cases hx'; exact hl2
          · exact hO.out j x (by omega) hx'
        have j1 : decide (xa < ba) = true := by simpa using hl2
        clear hO hx hbw
        go_wp2_with fail
        go_quiet (fail)
        go_wp2_with fail
        go_roundw
        case rel => exact ⟨k + 1, by omega, by go_num, NO, hid (below_drewN hb.out _)⟩
        case measure => simp [intOf]; omega
      · have HE : Hid (R = X.take k ++ ⟨ba, bo⟩ :: X.drop k) := by
          show _ = _
          rw [HR.out]
          unfold Bd.ins
          simp only
          rw [Bd.idx_of hk hO.out (fun y hy => by rw [hx] at hy; cases hy; show ba ≤ xa; omega)]
        have j1 : decide (xa < ba) = false := by simpa using hl2
        clear hO hx hbw HR
        go_wp2_with fail
        go_quiet (fail)
        go_wp2_with fail
        have HW : Hid (Below (w.heap.size + 1) wb (wr.drewN nq)) := below_drewN hb.out _
        obtain ⟨c2, c3⟩ := BX.out _ HW.out
        have HP : Hid (PgAt (wr.drewN nq) (some ⟨bb, oo, none⟩) X) := H.out.below (B0.out.trans (HW.out.mono (by omega)))
        have hsz : w.heap.size + 1 ≤ (wr.drewN nq).heap.size := by have := HW.out.size; omega
        clear hb c0 c1
        generalize wr.drewN nq = W0 at *
        go_region_held3 (fun W => W.cell? ⟨w.heap.size, 0, none⟩ = some (.int .i64 ba) ∧ W.cell? ⟨w.heap.size, 1, none⟩ = some (.int .i64 bo))
          (first | exact ⟨c2, c3⟩ | (go_split_ands; exact ⟨by assumption, by assumption⟩) | (exact ⟨keep1 (bx _ _) c2, keep1 (bx _ _) c3⟩) | (exact ⟨keep1 (bx _ _) x2, keep1 (bx _ _) x3⟩) | exact ⟨keep1 (bx _ _).drew c2, keep1 (bx _ _).drew c3⟩)
          ((first | (go_at_call 16; refine (KC.out _ (by first | exact HP.out.drew | exact (HP.out.below (bx _ _)).drew)).mono ?_; rintro r w1 ⟨v1, rfl, ho1, hb1⟩; have B1 : Hid (Below W0.heap.size W0 w1) := (by first | exact drew_below hb1 | exact below_tr (bx _ _) (drew_below hb1)); have x2 := keep1 B1.out c2; have x3 := keep1 B1.out c3; have O1 : Hid (OwnPg w1 (w.heap.size + 1) v1 X) := ho1.lower (by simp; omega); have L1 := hid fun q hq => ho1.lt q hq; (try (have ZB : Hid (OneAt w1 W0.heap.size ⟨ba, bo⟩) := (hb1.block W0.heap.size (by simp)).trans (heap_alloc_new W0 _))); clear hb1 ho1) | (go_at_call 15; refine (KI.out _ (w.heap.size + 1) v1 k _ (by first | exact O1.out.keepAlloc _ | exact O1.out) (by first | exact heap_alloc_new _ _ | exact ZB.out) (by first | exact (fun e => by have := (L1.out _ e).2; omega) | exact (fun e => by have := (L1.out _ e).1; simp at this; omega)) hk (by have := B1.out.size; simp; omega)).mono ?_; rintro r w5 ⟨v5, rfl, ho5, hg5⟩; have B5 : Hid (Below (w.heap.size + 1) wb w5) := (by first | exact (((HW.out.trans (B1.out.mono hsz)).alloc (by have := B1.out.size; omega) _).trans (hg5.below (by have := B1.out.size; simp; omega) (fun q hq => (O1.out.lt q hq).1))) | exact ((HW.out.trans (B1.out.mono hsz)).trans (hg5.below (by have := B1.out.size; omega) (fun q hq => (O1.out.lt q hq).1)))); obtain ⟨y2, y3⟩ := BX.out _ B5.out; rw [← HE.out] at ho5; have O5 := hid (ho5.lower (base' := w.heap.size) (by omega)); clear ho5 hg5)))
        all_goals (go_wp2_with fail)
        all_goals go_ret
        all_goals exact ⟨_, rfl, O5.out, B0.out.trans (B5.out.mono (by omega))⟩
    · obtain rfl : k = X.length := by omega
      have j3 : decide ((X.length : Int) < (X.length : Int)) = false := by simp
      have HE : Hid (R = X.take X.length ++ ⟨ba, bo⟩ :: X.drop X.length) := by
        show _ = _
        rw [HR.out]
        unfold Bd.ins
        simp only
        rw [Bd.idx_of hk hO.out (fun y hy => by simp at hy)]
      clear hO hbw HR
      go_wp2_with fail
      go_quiet (fail)
      go_wp2_with fail
      have HW : Hid (Below (w.heap.size + 1) wb (wr.drewN nq)) := below_drewN hb.out _
      obtain ⟨c2, c3⟩ := BX.out _ HW.out
      have HP : Hid (PgAt (wr.drewN nq) a X) := H.out.below (B0.out.trans (HW.out.mono (by omega)))
      have hsz : w.heap.size + 1 ≤ (wr.drewN nq).heap.size := by have := HW.out.size; omega
      clear hb c0 c1
      generalize wr.drewN nq = W0 at *
      go_region_held3 (fun W => W.cell? ⟨w.heap.size, 0, none⟩ = some (.int .i64 ba) ∧ W.cell? ⟨w.heap.size, 1, none⟩ = some (.int .i64 bo))
        (first | exact ⟨c2, c3⟩ | (go_split_ands; exact ⟨by assumption, by assumption⟩) | (exact ⟨keep1 (bx _ _) c2, keep1 (bx _ _) c3⟩) | (exact ⟨keep1 (bx _ _) x2, keep1 (bx _ _) x3⟩) | exact ⟨keep1 (bx _ _).drew c2, keep1 (bx _ _).drew c3⟩)
        ((first | (go_at_call 16; refine (KC.out _ (by first | exact HP.out.drew | exact (HP.out.below (bx _ _)).drew)).mono ?_; rintro r w1 ⟨v1, rfl, ho1, hb1⟩; have B1 : Hid (Below W0.heap.size W0 w1) := (by first | exact drew_below hb1 | exact below_tr (bx _ _) (drew_below hb1)); have x2 := keep1 B1.out c2; have x3 := keep1 B1.out c3; have O1 : Hid (OwnPg w1 (w.heap.size + 1) v1 X) := ho1.lower (by simp; omega); have L1 := hid fun q hq => ho1.lt q hq; (try (have ZB : Hid (OneAt w1 W0.heap.size ⟨ba, bo⟩) := (hb1.block W0.heap.size (by simp)).trans (heap_alloc_new W0 _))); clear hb1 ho1) | (go_at_call 15; refine (KI.out _ (w.heap.size + 1) v1 X.length _ (by first | exact O1.out.keepAlloc _ | exact O1.out) (by first | exact heap_alloc_new _ _ | exact ZB.out) (by first | exact (fun e => by have := (L1.out _ e).2; omega) | exact (fun e => by have := (L1.out _ e).1; simp at this; omega)) hk (by have := B1.out.size; simp; omega)).mono ?_; rintro r w5 ⟨v5, rfl, ho5, hg5⟩; have B5 : Hid (Below (w.heap.size + 1) wb w5) := (by first | exact (((HW.out.trans (B1.out.mono hsz)).alloc (by have := B1.out.size; omega) _).trans (hg5.below (by have := B1.out.size; simp; omega) (fun q hq => (O1.out.lt q hq).1))) | exact ((HW.out.trans (B1.out.mono hsz)).trans (hg5.below (by have := B1.out.size; omega) (fun q hq => (O1.out.lt q hq).1)))); obtain ⟨y2, y3⟩ := BX.out _ B5.out; rw [← HE.out] at ho5; have O5 := hid (ho5.lower (base' := w.heap.size) (by omega)); clear ho5 hg5)))
      all_goals (go_wp2_with fail)
      all_goals go_ret
      all_goals exact ⟨_, rfl, O5.out, B0.out.trans (B5.out.mono (by omega))⟩

end Go.Proofs.Ytodimkkgmidgcab.PBuddy
