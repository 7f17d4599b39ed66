/- quirref.holds, wish and can, walked: each answers what the plain words say, and nothing that was there has turned. Conditions: the locks lie where their slice says; for wish and can: of modes that there are. -/
import Derived.Test.YtjoaedkgjnchoacLockPl
import Derived.Test.YtjoaedkgjnchoacLockRFit
import Derived.BigRegion
import Derived.Deep.CutRange
import Derived.Deep.RegionHeld3
namespace Go.Proofs.Ytjoaedkgjnchoac.PLock
open Go Go.RowKit PPool
set_option maxRecDepth 100000

theorem md_none {L : List Lk.Lo} {t : Int} {k : Nat} {x : Lk.Lo} (hx : L[k]? = some x) (h : Lk.has (L.take k) t = false) (e : x.x = t) : Lk.md L t = x.m := by
  have e0 : L = L.take k ++ x :: L.drop (k + 1) := by
    obtain ⟨h1, h2⟩ := List.getElem?_eq_some_iff.1 hx
    rw [← h2, ← List.drop_eq_getElem_cons h1, List.take_append_drop]
  rw [e0]
  unfold Lk.md
  rw [List.find?_append, List.find?_eq_none.2 (fun l hl => by simpa using Lk.has_not.1 h l hl)]
  simp [e]

theorem rholds_any (w : World) (a : Option Addr) (c : Nat) (L : List Lk.Lo) (t : Int) (h : LkAt w a L) (hl : L.length ≤ 9223372036854775807) :
    Calls Try.prog 37 #[.slice a L.length c, .int .i64 t] w fun e w' => e = .returned (.int .i64 (Lk.md L t)) ∧ Below w.heap.size w w' := by
  obtain ⟨Y, hY⟩ : ∃ Y, Y = Lk.md L t := ⟨_, rfl⟩
  rw [← hY]
  have HY := hid hY
  have H := hid h
  clear hY h
  go_enter Try.func37, Try.ntmps37
  go_wp2_with fail
  go_loopw [9] (fun i wr => ∃ k : Nat, k ≤ L.length ∧ i = .int .i64 (k : Int) ∧ Hid (Lk.has (L.take k) t = false) ∧ Hid (Below w.heap.size w wr)) (fun i _ => L.length - (intOf i).toNat)
  case atStart => exact ⟨0, Nat.zero_le _, rfl, by show _ = _; rfl, Below.refl _ _⟩
  case round =>
    obtain ⟨k, hk, rfl, hO, hb⟩ := hrel
    by_cases hlt : k < L.length
    · obtain ⟨x, hx⟩ : ∃ x, L[k]? = some x := ⟨_, List.getElem?_eq_getElem hlt⟩
      obtain ⟨b, o, rfl, d1, d2⟩ := (H.out.below hb.out) k x hx
      have k0 : (0 : Int) ≤ (k : Int) := by omega
      have k1 : (k : Int) < (L.length : Int) := by omega
      have HX := hid hx
      clear hx
      obtain ⟨xx, xm⟩ := x
      simp only at d1 d2
      have B3 : Hid (Below w.heap.size w (wr.alloc (.cells #[.int .i64 xx, .int .i64 xm] 65))) := below_tr hb.out (bx _ _)
      by_cases e : xx = t
      · subst e
        have HK := hid (HY.out.trans (md_none HX.out hO.out rfl))
        clear hO HX HY
        go_wp2_with fail
        go_ret
        exact ⟨by rw [HK.out]; rfl, B3.out⟩
      · have NO : Hid (Lk.has (L.take (k + 1)) t = false) := by show _ = _; rw [has_next HX.out, hO.out]; simpa using e
        have e' : (xx == t) = false := by simpa using e
        clear hO HX
        go_wp2_with fail
        go_roundw
        case rel => exact ⟨k + 1, by omega, by go_num, NO, B3⟩
        case measure => simp [intOf]; omega
    · obtain rfl : k = L.length := by omega
      have j3 : decide ((L.length : Int) < (L.length : Int)) = false := by simp
      have HK : Hid (Y = 0) := by
        have := hO.out
        rw [List.take_length] at this
        show _ = _
        rw [HY.out]
        exact Lk.md_not this
      clear hO
      go_wp2_with fail
      go_ret
      exact ⟨by rw [HK.out]; rfl, hb.out⟩

theorem md_pos {L : List Lk.Lo} {t : Int} (hL : ∀ l ∈ L, Lk.mode l.m = true) (h : Lk.has L t = true) : 0 < Lk.md L t ∧ Lk.mode (Lk.md L t) = true := by
  obtain ⟨l, h1, _, h3⟩ := Lk.pl_at h
  have := hL l (List.mem_of_getElem? h1)
  rw [h3]
  exact ⟨by have := Lk.mode_iff.1 this; omega, this⟩
theorem wish_mode {L : List Lk.Lo} {l : Lk.Lo} (hL : ∀ l ∈ L, Lk.mode l.m = true) (hl : Lk.mode l.m = true) : Lk.mode (Lk.wish L l) = true := by
  unfold Lk.wish
  split
  · rename_i h; exact Lk.join_mode (md_pos hL h).2 hl
  · exact hl

set_option maxHeartbeats 1000000 in
theorem rwish_any (w : World) (i : Value) (a : Option Addr) (c : Nat) (L : List Lk.Lo) (vq : Value) (l : Lk.Lo) (h : LkAt w a L) (hl : L.length ≤ 9223372036854775807) (hL : ∀ l ∈ L, Lk.mode l.m = true) (hm : Lk.mode l.m = true) :
    Calls Try.prog 38 #[.agg #[i, .slice a L.length c, vq], .agg #[.int .i64 l.x, .int .i64 l.m]] w fun e w' => e = .returned (.int .i64 (Lk.wish L l)) ∧ Below w.heap.size w w' := by
  obtain ⟨t, m⟩ := l
  simp only at hm ⊢
  obtain ⟨Y, hY⟩ : ∃ Y, Y = Lk.wish L ⟨t, m⟩ := ⟨_, rfl⟩
  rw [← hY]
  unfold Lk.wish at hY
  simp only at hY
  have K := hid fun W hW => rholds_any W a c L t (h.below hW) hl
  have h2 : ∀ T T', Below w.heap.size w ((w.alloc (.cells #[i, .slice a L.length c, vq] T)).alloc (.cells #[.int .i64 t, .int .i64 m] T')) := fun T T' => below_tr (bx _ _) (bx _ _)
  have H2 := hid h2
  clear h2
  cases hh : Lk.has L t with
  | false =>
    rw [if_neg (by rw [hh]; simp)] at hY
    have HY := hid hY
    rw [Lk.md_not hh] at K
    clear hY hh h hl hL hm
    go_enter Try.func38, Try.ntmps38
    go_wp2_with fail
    refine (K.out _ (H2.out _ _)).mono ?_
    rintro r w1 ⟨rfl, hb⟩
    have B1 := hid (below_tr (H2.out _ _) hb)
    obtain ⟨c0, c1, c2, c3, c4⟩ := bx2 hb
    clear hb K H2
    go_wp2_with fail
    go_ret
    exact ⟨by rw [HY.out]; rfl, B1.out⟩
  | true =>
    rw [if_pos hh] at hY
    have HY := hid hY
    obtain ⟨p0, pm⟩ := md_pos hL hh
    have KJ := hid fun W => rjoin_any W (Lk.md L t) m pm hm
    generalize Lk.md L t = y at *
    have p1 : decide (y > 0) = true := by simpa using p0
    have p2 : decide (0 < y) = true := by simpa using p0
    clear hY hh h hl hL hm pm
    go_enter Try.func38, Try.ntmps38
    go_wp2_with fail
    refine (K.out _ (H2.out _ _)).mono ?_
    rintro r w1 ⟨rfl, hb⟩
    have B1 := hid (below_tr (H2.out _ _) hb)
    obtain ⟨c0, c1, c2, c3, c4⟩ := bx2 hb
    clear hb K H2
    go_wp2_with fail
    refine (KJ.out _).mono ?_
    rintro r w2 ⟨rfl, hw⟩
    obtain rfl := hw.symm
    go_wp2_with fail
    go_ret
    exact ⟨by rw [HY.out]; rfl, B1.out⟩

set_option maxHeartbeats 2000000 in
theorem rcan_any (w : World) (i : Value) (a : Option Addr) (c : Nat) (L : List Lk.Lo) (aq : Option Addr) (nq cq : Nat) (l : Lk.Lo) (hi : ∃ z, i = .int .i64 z) (h : LkAt w a L) (hl : L.length ≤ 9223372036854775807) (hL : ∀ l ∈ L, Lk.mode l.m = true) (hm : Lk.mode l.m = true) :
    Calls Try.prog 40 #[.agg #[i, .slice a L.length c, .slice aq nq cq], .agg #[.int .i64 l.x, .int .i64 l.m]] w fun e w' => e = .returned (.bool (Lk.can L l)) ∧ Below w.heap.size w w' := by
  have KWi := hid fun W hW => rwish_any W i a c L (.slice aq nq cq) l (h.below hW) hl hL hm
  have KF := hid fun W u v => (rfits_any W u v).mono fun e w' (hh : _ ∧ w' = W) => (⟨hh.1, by rw [hh.2]; exact Below.refl _ _⟩ : e = .returned (.bool (Lk.fit u v)) ∧ Below W.heap.size W w')
  obtain ⟨y, hy⟩ : ∃ y, y = Lk.wish L l := ⟨_, rfl⟩
  rw [← hy] at KWi
  obtain ⟨Y, hY⟩ : ∃ Y, Y = Lk.can L l := ⟨_, rfl⟩
  rw [← hY]
  have HY : Hid (Y = true ↔ ∀ h ∈ L, h.x ≠ l.x → Lk.fit h.m y = true) := by show _ ↔ _; rw [hY, hy]; exact Lk.can_iff
  obtain ⟨t, m⟩ := l
  obtain ⟨z, rfl⟩ := hi
  simp only at KWi HY ⊢
  have H := hid h
  obtain ⟨N, hN⟩ : ∃ N, N = L.length := ⟨_, rfl⟩
  rw [← hN] at KWi hl ⊢
  have HN := hid hN
  clear hy hY h hL hm hN
  have hl2 : (N : Int) ≤ 9223372036854775807 := by omega
  obtain ⟨W0, hW0⟩ : ∃ W0, W0 = (w.alloc (.cells #[.int .i64 z, .slice a N c, .slice aq nq cq] 57)).alloc (.cells #[.int .i64 t, .int .i64 m] 65) := ⟨_, rfl⟩
  have B0 : Hid (Below w.heap.size w W0) := by show Below _ _ _; rw [hW0]; exact below_tr (bx _ _) (bx _ _)
  have C0 : Hid (∀ W, Below W0.heap.size W0 W → W.cell? ⟨w.heap.size, 0, none⟩ = some (.int .i64 z) ∧ W.cell? ⟨w.heap.size, 1, none⟩ = some (.slice a N c) ∧ W.cell? ⟨w.heap.size, 2, none⟩ = some (.slice aq nq cq) ∧ W.cell? ⟨w.heap.size + 1, 0, none⟩ = some (.int .i64 t) ∧ W.cell? ⟨w.heap.size + 1, 1, none⟩ = some (.int .i64 m)) := fun W hW => by rw [hW0] at hW; exact bx2 hW
  have HW0 := hid hW0
  clear hW0
  go_enter Try.func40, Try.ntmps40
  go_upto_region 1 with fail
  rw [← HW0.out]
  clear HW0
  obtain ⟨c0, c1, c2, c3, c4⟩ := C0.out _ (Below.refl _ _)
  go_wp2_with fail
  go_loopw [10] (fun i wr => ∃ k : Nat, k ≤ N ∧ i = .int .i64 (k : Int) ∧ Hid (∀ h ∈ L.take k, h.x ≠ t → Lk.fit h.m y = true) ∧ Hid (Below W0.heap.size W0 wr)) (fun i _ => N - (intOf i).toNat)
  case atStart => exact ⟨0, Nat.zero_le _, rfl, fun h hh => by simp at hh, Below.refl _ _⟩
  case round =>
    clear c0 c1 c2 c3 c4
    obtain ⟨k, hk, rfl, hO, hb⟩ := hrel
    by_cases hlt : k < N
    · obtain ⟨x, hx⟩ : ∃ x, L[k]? = some x := ⟨_, List.getElem?_eq_getElem (by have := HN.out; omega)⟩
      obtain ⟨b, o, rfl, d1, d2⟩ := (H.out.below (below_tr B0.out hb.out)) k x hx
      have k0 : (0 : Int) ≤ (k : Int) := by omega
      have k1 : (k : Int) < (N : Int) := by omega
      have HX := hid hx
      have NX : Hid (∀ b : Bool, b = (decide (x.x ≠ t) && !Lk.fit y x.m) → (b = true → Y = false) ∧ (b = false → ∀ h ∈ L.take (k + 1), h.x ≠ t → Lk.fit h.m y = true)) := fun b hb => by
        subst hb
        constructor
        · intro hb
          rw [Bool.and_eq_true] at hb
          cases hYt : Y with
          | false => rfl
          | true =>
            have := (HY.out.1 hYt) x (List.mem_of_getElem? hx) (by simpa using hb.1)
            rw [Lk.fit_comm] at this
            rw [this] at hb
            simp at hb
        · intro hb h hh hne
          obtain ⟨h1, h2⟩ := List.getElem?_eq_some_iff.1 hx
          rw [List.take_succ_eq_append_getElem h1, h2, List.mem_append, List.mem_singleton] at hh
          rcases hh with hh | rfl
          · exact hO.out h hh hne
          · cases hf : Lk.fit h.m y with
            | true => rfl
            | false => rw [Lk.fit_comm, hf] at hb; simp [hne] at hb
      clear hx
      obtain ⟨xx, xm⟩ := x
      simp only at d1 d2 NX
      obtain ⟨W1, hW1⟩ : ∃ W1, W1 = wr.alloc (.cells #[.int .i64 xx, .int .i64 xm] 65) := ⟨_, rfl⟩
      obtain ⟨B, hB⟩ : ∃ B, B = wr.heap.size := ⟨_, rfl⟩
      have B1 : Hid (Below W0.heap.size W0 W1) := by show Below _ _ _; rw [hW1]; exact below_tr hb.out (bx _ _)
      have SB : Hid (∀ W, Below W1.heap.size W1 W → W.cell? ⟨w.heap.size, 0, none⟩ = some (.int .i64 z) ∧ W.cell? ⟨w.heap.size, 1, none⟩ = some (.slice (some ⟨b, o, none⟩) N c) ∧ W.cell? ⟨w.heap.size, 2, none⟩ = some (.slice aq nq cq) ∧ W.cell? ⟨w.heap.size + 1, 0, none⟩ = some (.int .i64 t) ∧ W.cell? ⟨w.heap.size + 1, 1, none⟩ = some (.int .i64 m) ∧ W.cell? ⟨B, 0, none⟩ = some (.int .i64 xx) ∧ W.cell? ⟨B, 1, none⟩ = some (.int .i64 xm)) := fun W hW => by
        obtain ⟨g0, g1, g2, g3, g4⟩ := C0.out W (below_tr B1.out hW)
        rw [hW1] at hW
        rw [hB]
        exact ⟨g0, g1, g2, g3, g4, (box2 hW).1, (box2 hW).2⟩
      have HW1 := hid hW1
      have HB := hid hB
      clear hW1 hB
      go_upto_region 4 with fail
      rw [← HW1.out, ← HB.out]
      clear HW1 HB d1 d2
      have BD : Below W1.heap.size W1 W1.drew := (Below.refl _ _).drew
      go_cut [27] from 14 to 27 (fun r wx => r = .bool (decide (xx ≠ t) && !Lk.fit y xm) ∧ Hid (Below W1.heap.size W1 wx))
      case first =>
        clear hO NX HY
        refine wp_region_held_drew (S := fun W => W.cell? ⟨w.heap.size, 0, none⟩ = some (.int .i64 z) ∧ W.cell? ⟨w.heap.size, 1, none⟩ = some (.slice (some ⟨b, o, none⟩) N c) ∧ W.cell? ⟨w.heap.size, 2, none⟩ = some (.slice aq nq cq) ∧ W.cell? ⟨w.heap.size + 1, 0, none⟩ = some (.int .i64 t) ∧ W.cell? ⟨w.heap.size + 1, 1, none⟩ = some (.int .i64 m) ∧ W.cell? ⟨B, 0, none⟩ = some (.int .i64 xx) ∧ W.cell? ⟨B, 1, none⟩ = some (.int .i64 xm)) (by kernel_rfl) (SB.out _ BD) (fun hHeld => ?_)
        refine wpAnyH_take (i := 0) (v := ?tv1) rfl (by kernel_rfl) (by kernel_rfl) (by kernel_rfl) (fun _ _ _ h => h) (Or.inl ⟨by rfl, ?th1⟩) (by assumption) ?tr1
        case th1 => (intro w hSw; (try dsimp only at hSw); go_simp; all_goals (with_reducible rfl))
        simp only [Act.put, List.getElem_toArray, List.getElem_cons_zero, List.setIfInBounds_toArray, List.set_cons_zero, List.set_cons_succ]
        refine wpAnyH_take (i := 1) (v := ?tv2) rfl (by kernel_rfl) (by kernel_rfl) (by kernel_rfl) (fun _ _ _ h => h) (Or.inl ⟨by rfl, ?th2⟩) (by assumption) ?tr2
        case th2 => (intro w hSw; (try dsimp only at hSw); go_simp; all_goals (with_reducible rfl))
        simp only [Act.put, List.getElem_toArray, List.getElem_cons_zero, List.getElem_cons_succ, List.setIfInBounds_toArray, List.set_cons_zero, List.set_cons_succ]
        refine wpAnyH_take (i := 2) (v := ?tv3) rfl (by kernel_rfl) (by kernel_rfl) (by kernel_rfl) (fun _ _ _ h => h) (Or.inl ⟨by rfl, ?th3⟩) (by assumption) ?tr3
        case th3 => (intro w hSw; (try dsimp only at hSw); go_simp; all_goals (with_reducible rfl))
        simp only [Act.put, List.getElem_toArray, List.getElem_cons_zero, List.getElem_cons_succ, List.setIfInBounds_toArray, List.set_cons_zero, List.set_cons_succ]
        refine wpAnyH_take (i := 3) (v := ?tv4) rfl (by kernel_rfl) (by kernel_rfl) (by kernel_rfl) (fun _ _ _ h => h) (Or.inl ⟨by rfl, ?th4⟩) (by assumption) ?tr4
        case th4 => (intro w hSw; (try dsimp only at hSw); go_simp; all_goals (with_reducible rfl))
        simp only [Act.put, List.getElem_toArray, List.getElem_cons_zero, List.getElem_cons_succ, List.setIfInBounds_toArray, List.set_cons_zero, List.set_cons_succ]
        refine wpAnyH_take (i := 4) (v := ?tv5) rfl (by kernel_rfl) (by kernel_rfl) (by kernel_rfl) (fun _ _ _ h => h) (Or.inl ⟨by rfl, ?th5⟩) (by assumption) ?tr5
        case th5 => (intro w hSw; (try dsimp only at hSw); go_simp; all_goals (with_reducible rfl))
        simp only [Act.put, List.getElem_toArray, List.getElem_cons_zero, List.getElem_cons_succ, List.setIfInBounds_toArray, List.set_cons_zero, List.set_cons_succ]
        refine wpAnyH_take (i := 5) (v := ?tv6) rfl (by kernel_rfl) (by kernel_rfl) (by kernel_rfl) (fun _ _ _ h => h) (Or.inl ⟨by rfl, ?th6⟩) (by assumption) ?tr6
        case th6 => (intro w hSw; (try dsimp only at hSw); go_simp; all_goals (with_reducible rfl))
        simp only [Act.put, List.getElem_toArray, List.getElem_cons_zero, List.getElem_cons_succ, List.setIfInBounds_toArray, List.set_cons_zero, List.set_cons_succ]
        by_cases e : xx = t
        · have e' : (xx != t) = false := by simpa using e
          have e2 : (decide (xx ≠ t) && !Lk.fit y xm) = false := by simp [e]
          simp only [e']
          refine wpAnyH_take (i := 6) (v := undef) rfl (by kernel_rfl) (by kernel_rfl) (by kernel_rfl) (fun _ _ _ h => h) (Or.inr ⟨by rfl, rfl⟩) (by assumption) ?_
          try simp only [Act.put, List.getElem_toArray, List.getElem_cons_zero, List.getElem_cons_succ, List.setIfInBounds_toArray, List.set_cons_zero, List.set_cons_succ]
          refine wpAnyH_take (i := 7) (v := undef) rfl (by kernel_rfl) (by kernel_rfl) (by kernel_rfl) (fun _ _ _ h => h) (Or.inr ⟨by rfl, rfl⟩) (by assumption) ?_
          try simp only [Act.put, List.getElem_toArray, List.getElem_cons_zero, List.getElem_cons_succ, List.setIfInBounds_toArray, List.set_cons_zero, List.set_cons_succ]
          refine wpAnyH_take (i := 8) (v := undef) rfl (by kernel_rfl) (by kernel_rfl) (by kernel_rfl) (fun _ _ _ h => h) (Or.inr ⟨by rfl, rfl⟩) (by assumption) ?_
          try simp only [Act.put, List.getElem_toArray, List.getElem_cons_zero, List.getElem_cons_succ, List.setIfInBounds_toArray, List.set_cons_zero, List.set_cons_succ]
          refine wpAnyH_take (i := 9) (v := undef) rfl (by kernel_rfl) (by kernel_rfl) (by kernel_rfl) (fun _ _ _ h => h) (Or.inr ⟨by rfl, rfl⟩) (by assumption) ?_
          try simp only [Act.put, List.getElem_toArray, List.getElem_cons_zero, List.getElem_cons_succ, List.setIfInBounds_toArray, List.set_cons_zero, List.set_cons_succ]
          refine wpAnyH_take (i := 10) (v := undef) rfl (by kernel_rfl) (by kernel_rfl) (by kernel_rfl) (fun _ _ _ h => h) (Or.inr ⟨by rfl, rfl⟩) (by assumption) ?_
          try simp only [Act.put, List.getElem_toArray, List.getElem_cons_zero, List.getElem_cons_succ, List.setIfInBounds_toArray, List.set_cons_zero, List.set_cons_succ]
          refine wpAnyH_take (i := 11) (v := undef) rfl (by kernel_rfl) (by kernel_rfl) (by kernel_rfl) (fun _ _ _ h => h) (Or.inr ⟨by rfl, rfl⟩) (by assumption) ?_
          try simp only [Act.put, List.getElem_toArray, List.getElem_cons_zero, List.getElem_cons_succ, List.setIfInBounds_toArray, List.set_cons_zero, List.set_cons_succ]
          refine wpAnyH_take (i := 12) (v := undef) rfl (by kernel_rfl) (by kernel_rfl) (by kernel_rfl) (fun _ _ _ h => h) (Or.inr ⟨by rfl, rfl⟩) (by assumption) ?_
          try simp only [Act.put, List.getElem_toArray, List.getElem_cons_zero, List.getElem_cons_succ, List.setIfInBounds_toArray, List.set_cons_zero, List.set_cons_succ]
          refine wpAnyH_take (i := 13) (v := ?tv7) rfl (by kernel_rfl) (by kernel_rfl) (by kernel_rfl) (fun _ _ _ h => h) (Or.inl ⟨by rfl, ?th7⟩) (by assumption) ?tr7
          case th7 => (intro w hSw; (try dsimp only at hSw); go_simp; all_goals (with_reducible rfl))
          simp only [Act.put, List.getElem_toArray, List.getElem_cons_zero, List.getElem_cons_succ, List.setIfInBounds_toArray, List.set_cons_zero, List.set_cons_succ]
          refine wpAnyH_done (by kernel_rfl) ?_ _
          go_wp2_with fail
          go_meet
          exact ⟨by rw [e2], BD⟩
        · have e' : (xx != t) = true := by simpa using e
          have e2 : (decide (xx ≠ t) && !Lk.fit y xm) = !Lk.fit y xm := by simp [e]
          simp only [e']
          refine wpAnyH_take (i := 6) (v := ?tv8) rfl (by kernel_rfl) (by kernel_rfl) (by kernel_rfl) (fun _ _ _ h => h) (Or.inl ⟨by rfl, ?th8⟩) (by assumption) ?tr8
          case th8 => (intro w hSw; (try dsimp only at hSw); go_simp; all_goals (with_reducible rfl))
          simp only [Act.put, List.getElem_toArray, List.getElem_cons_zero, List.getElem_cons_succ, List.setIfInBounds_toArray, List.set_cons_zero, List.set_cons_succ]
          refine wpAnyH_take (i := 7) (v := ?tv9) rfl (by kernel_rfl) (by kernel_rfl) (by kernel_rfl) (fun _ _ _ h => h) (Or.inl ⟨by rfl, ?th9⟩) (by assumption) ?tr9
          case th9 => (intro w hSw; (try dsimp only at hSw); go_simp; all_goals (with_reducible rfl))
          simp only [Act.put, List.getElem_toArray, List.getElem_cons_zero, List.getElem_cons_succ, List.setIfInBounds_toArray, List.set_cons_zero, List.set_cons_succ]
          refine wpAnyH_take (i := 9) (v := ?tv10) rfl (by kernel_rfl) (by kernel_rfl) (by kernel_rfl) (fun _ _ _ h => h) (Or.inl ⟨by rfl, ?th10⟩) (by assumption) ?tr10
          case th10 => (intro w hSw; (try dsimp only at hSw); go_simp; all_goals (with_reducible rfl))
          simp only [Act.put, List.getElem_toArray, List.getElem_cons_zero, List.getElem_cons_succ, List.setIfInBounds_toArray, List.set_cons_zero, List.set_cons_succ]
          refine wpAnyH_take (i := 10) (v := ?tv11) rfl (by kernel_rfl) (by kernel_rfl) (by kernel_rfl) (fun _ _ _ h => h) (Or.inl ⟨by rfl, ?th11⟩) (by assumption) ?tr11
          case th11 => (intro w hSw; (try dsimp only at hSw); go_simp; all_goals (with_reducible rfl))
          simp only [Act.put, List.getElem_toArray, List.getElem_cons_zero, List.getElem_cons_succ, List.setIfInBounds_toArray, List.set_cons_zero, List.set_cons_succ]
          refine wpAnyH_ready (rs := [8]) (by kernel_rfl) (by simp) ?_
          refine AllReadyH.cons rfl (fun K hK => ?_) AllReadyH.nil
          go_simp
          refine (KWi.out _ (below_tr B0.out (below_tr B1.out BD))).mono ?_
          rintro r v8 ⟨rfl, hv8⟩
          have BE : Below W1.heap.size W1 v8 := below_tr BD hv8
          clear hv8
          refine hK.out _ _ (SB.out _ BE) (fun hHeld => ?_)
          clear hK K
          try simp only [Act.put, List.getElem_toArray, List.getElem_cons_zero, List.getElem_cons_succ, List.setIfInBounds_toArray, List.set_cons_zero, List.set_cons_succ]
          refine wpAnyH_ready (rs := [11]) (by kernel_rfl) (by simp) ?_
          refine AllReadyH.cons rfl (fun K hK => ?_) AllReadyH.nil
          go_simp
          refine (KF.out _ y xm).mono ?_
          rintro r v11 ⟨rfl, hv11⟩
          have BF : Below W1.heap.size W1 v11 := below_tr BE hv11
          clear hv11
          refine hK.out _ _ (SB.out _ BF) (fun hHeld => ?_)
          clear hK K
          try simp only [Act.put, List.getElem_toArray, List.getElem_cons_zero, List.getElem_cons_succ, List.setIfInBounds_toArray, List.set_cons_zero, List.set_cons_succ]
          refine wpAnyH_take (i := 12) (v := ?tv12) rfl (by kernel_rfl) (by kernel_rfl) (by kernel_rfl) (fun _ _ _ h => h) (Or.inl ⟨by rfl, ?th12⟩) (by assumption) ?tr12
          case th12 => (intro w hSw; (try dsimp only at hSw); go_simp; all_goals (with_reducible rfl))
          simp only [Act.put, List.getElem_toArray, List.getElem_cons_zero, List.getElem_cons_succ, List.setIfInBounds_toArray, List.set_cons_zero, List.set_cons_succ]
          refine wpAnyH_take (i := 13) (v := ?tv13) rfl (by kernel_rfl) (by kernel_rfl) (by kernel_rfl) (fun _ _ _ h => h) (Or.inl ⟨by rfl, ?th13⟩) (by assumption) ?tr13
          case th13 => (intro w hSw; (try dsimp only at hSw); go_simp; all_goals (with_reducible rfl))
          simp only [Act.put, List.getElem_toArray, List.getElem_cons_zero, List.getElem_cons_succ, List.setIfInBounds_toArray, List.set_cons_zero, List.set_cons_succ]
          refine wpAnyH_done (by kernel_rfl) ?_ _
          go_wp2_with fail
          go_meet
          exact ⟨by rw [e2], BF⟩
      case rest =>
        obtain ⟨rfl, hX⟩ := hcut
        have BW := hid (below_tr B1.out hX.out)
        have NY := NX.out _ rfl
        generalize (decide (xx ≠ t) && !Lk.fit y xm) = g at *
        cases g with
        | true =>
          have HK := hid (NY.1 rfl)
          clear NY NX hO HX HY
          go_wp2_with fail
          go_ret
          exact ⟨by rw [HK.out]; rfl, below_tr B0.out BW.out⟩
        | false =>
          have HK := hid (NY.2 rfl)
          clear NY NX hO HX
          go_wp2_with fail
          go_roundw
          case rel => exact ⟨k + 1, by omega, by go_num, HK, BW⟩
          case measure => simp [intOf]; omega
    · obtain rfl : k = N := by omega
      have j3 : decide ((k : Int) < (k : Int)) = false := by simp
      have HK : Hid (Y = true) := by
        have := hO.out
        rw [HN.out, List.take_length] at this
        exact HY.out.2 this
      have BB := hid (below_tr B0.out hb.out)
      clear hO HY
      go_wp2_with fail
      go_ret
      exact ⟨by rw [HK.out]; rfl, BB.out⟩
end Go.Proofs.Ytjoaedkgjnchoac.PLock
