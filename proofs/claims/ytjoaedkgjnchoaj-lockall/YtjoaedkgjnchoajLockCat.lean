/- Go's slices.Grow of nothing and slices.Concat of two lists, at locks, walked: a row of one's own with the locks of both. Conditions: how many locks there are. -/
import Derived.Test.YtjoaedkgjnchoajLockApp
namespace Go.Proofs.Ytjoaedkgjnchoaj.PLock
open Go Go.RowKit PPool
set_option maxRecDepth 100000

set_option maxHeartbeats 1000000 in
theorem grow_any (w : World) (n : Nat) (hn : n ≤ 140737488355328) (hn2 : n * 16 ≤ 140737488355328) :
    Calls Try.prog 24 #[.slice none 0 0, .int .i64 (n : Int)] w fun e w' => ∃ v, e = .returned v ∧ OwnLk w' w.heap.size v [] ∧ Below w.heap.size w w' := by
  obtain ⟨i0, hi0, hz0, hz1, hz2⟩ := info_parts lock_info
  have u := Try.underlying35
  have u3 := Try.underlying3
  have z := Try.sizeOf40
  rcases Nat.eq_zero_or_pos n with rfl | hp
  · clear hi0 hz0 hz1 hz2
    go_enter Try.func24, Try.ntmps24
    go_wp2_with fail
    go_ret
    exact ⟨_, rfl, OwnLk.nil _ _, Below.refl _ _⟩
  · have hrz : ∀ ty, _ := fun ty => Lib.run_append_nil_zeros (P := Try.prog) w 35 3 ty 40 i0 _ .i64 .i64 u u3 hi0 hz0 n hp (by omega) (by omega) (by rw [hz2]; omega)
    obtain ⟨G, hG⟩ : ∃ G, G = grownCap w n 0 40 := ⟨_, rfl⟩
    have hGge : n ≤ G := by rw [hG]; exact grownCap_ge w _ _ _
    have hGm : G ≤ maxLen := by rw [hG]; exact grownCap_le_maxLen w n 0 _ (by unfold maxLen; omega)
    rw [← hG] at hrz
    obtain ⟨W1, hW1⟩ : ∃ W1, W1 = w.drew.alloc (.cells (Builtin.zeroCells (Value.agg #[.int .i64 0, .int .i64 0]).cells n ++ Builtin.zeroCells (Value.agg #[.int .i64 0, .int .i64 0]).cells (G - n)) 40) := ⟨_, rfl⟩
    rw [← hW1] at hrz
    have HO : Hid (OwnLk W1 w.heap.size (.slice (some ⟨w.heap.size, 0, none⟩) 0 G) []) := by
      refine ⟨by simp, .inr ⟨w.heap.size, G, _, rfl, Nat.le_refl _, by rw [hW1]; exact heap_alloc_new w.drew _, Nat.zero_le _, hGm, ?_, by simp⟩⟩
      rw [zero_cells, zero_cells, Array.size_append, List.size_toArray, List.size_toArray, lk_len, lk_len, List.length_replicate, List.length_replicate]
      omega
    have HB : Hid (Below w.heap.size w W1) := by show Below _ _ _; rw [hW1]; exact (Below.refl _ w).drew.alloc (Nat.le_refl _) _
    have p1 : (0 : Int) < (n : Int) := by omega
    have p2 : (n : Int) ≤ 140737488355328 := by omega
    clear hW1 hi0 hz0 hz1 hz2 hG hGm
    go_enter Try.func24, Try.ntmps24
    go_wp2_with (at_builtin; refine Lib.wpList_append_run _ rfl _ _ _ _ rfl _ _ rfl rfl _ _ (hrz _) ?_)
    go_ret
    exact ⟨_, rfl, HO.out, HB.out⟩

set_option maxHeartbeats 2000000 in
theorem concat_any (w : World) (rb : Nat) (a1 a2 : Option Addr) (c1 c2 : Nat) (X1 X2 : List Lk.Lo) (h1 : LkAt w a1 X1) (h2 : LkAt w a2 X2) (hc1 : a1 = none → c1 = 0) (hc2 : a2 = none → c2 = 0)
    (q1 : w.cell? ⟨rb, 0, none⟩ = some (.slice a1 X1.length c1)) (q2 : w.cell? ⟨rb, 1, none⟩ = some (.slice a2 X2.length c2)) (hl1 : X1.length ≤ 2000) (hl2 : X2.length ≤ 2000) :
    Calls Try.prog 9 #[.slice (some ⟨rb, 0, none⟩) 2 2] w fun e w' => ∃ v, e = .returned v ∧ OwnLk w' w.heap.size v (X1 ++ X2) ∧ Below w.heap.size w w' := by
  have KG := hid fun W => grow_any W (X1.length + X2.length) (by omega) (by omega)
  have H1 := hid h1
  have H2 := hid h2
  have HC1 := hid hc1
  have HC2 := hid hc2
  obtain ⟨n1, hn1⟩ : ∃ n1, n1 = X1.length := ⟨_, rfl⟩
  obtain ⟨n2, hn2⟩ : ∃ n2, n2 = X2.length := ⟨_, rfl⟩
  rw [← hn1] at q1 hl1 KG
  rw [← hn2] at q2 hl2 KG
  have HN1 := hid hn1
  have HN2 := hid hn2
  clear h1 h2 hc1 hc2 hn1 hn2
  have l1 : (n1 : Int) ≤ 2000 := by omega
  have l2 : (n2 : Int) ≤ 2000 := by omega
  go_enter Try.func9, Try.ntmps9
  go_wp2_with fail
  go_loopw [11, 3] (fun i s wr => Hid (w = wr) ∧ ((i = .int .i64 0 ∧ s = .int .i64 0) ∨ (i = .int .i64 1 ∧ s = .int .i64 (n1 : Int)) ∨ (i = .int .i64 2 ∧ s = .int .i64 ((n1 : Int) + (n2 : Int))))) (fun i _ _ => 2 - (intOf i).toNat)
  case atStart => exact ⟨hid rfl, .inl ⟨rfl, rfl⟩⟩
  case round =>
    obtain ⟨hw, hrel⟩ := hrel
    obtain rfl := hw.out
    clear hw
    obtain ⟨rfl, rfl⟩ | ⟨rfl, rfl⟩ | ⟨rfl, rfl⟩ := hrel
    · go_wp2_with fail
      go_roundw
      case rel => exact ⟨hid trivial, .inr (.inl ⟨rfl, rfl⟩)⟩
      case measure => simp [intOf]
    · go_wp2_with fail
      go_roundw
      case rel => exact ⟨hid trivial, .inr (.inr ⟨rfl, rfl⟩)⟩
      case measure => simp [intOf]
    · go_wp2_with fail
      have KG' := KG.out w
      rw [show ((n1 + n2 : Nat) : Int) = (n1 : Int) + (n2 : Int) by omega] at KG'
      have KGh := hid KG'
      clear KG KG'
      refine KGh.out.mono ?_
      rintro r w1 ⟨v1, rfl, ho, hb⟩
      have O1 := hid ho
      have B1 := hid hb
      obtain ⟨a3, k3, rfl, _⟩ := ho.at_
      clear ho hb KGh
      simp only [List.length_nil]
      go_wp2_with fail
      go_loopw [27, 6] (fun i u ws => (∃ ua uc L, u = .slice ua (List.length L) uc ∧ Hid (OwnLk ws w.heap.size u L) ∧ Hid (Below w.heap.size w ws) ∧ ((i = .int .i64 0 ∧ Hid (L = [])) ∨ (i = .int .i64 1 ∧ Hid (L = X1)) ∨ (i = .int .i64 2 ∧ Hid (L = X1 ++ X2))))) (fun i _ _ => 2 - (intOf i).toNat)
      case atStart => exact ⟨a3, k3, [], rfl, O1, B1, .inl ⟨rfl, rfl⟩⟩
      case round =>
        obtain ⟨ua, uc, L, rfl, hO, hB, ⟨rfl, hL⟩ | ⟨rfl, hL⟩ | ⟨rfl, hL⟩⟩ := hrel
        · obtain rfl := hL.out
          have d1 := keep1 hB.out q1
          have hsz := hB.out.size
          have ho := hO.out
          clear hL
          go_wp2_with (at_builtin; refine wpList_append_lk rfl _ _ rfl w.heap.size _ _ rfl hO.out a1 c1 X1 (by rw [← HN1.out]; rfl) (H1.out.below hB.out) HC1.out ?qc4 hsz ?_)
          case qc4 => have := HN1.out; simp; omega
          intro v' w4 hown hgrow
          have O4 := hid hown
          have B4 : Hid (Below w.heap.size w w4) := hB.out.grown hgrow hsz (fun q hq => (ho.lt q hq).1)
          obtain ⟨a4, k4, rfl, _⟩ := hown.at_
          clear hown hgrow hO hB ho
          go_wp2_with fail
          go_roundw
          case rel => exact ⟨a4, k4, _, rfl, O4, B4, .inr (.inl ⟨rfl, by show _ = _; simp⟩)⟩
          case measure => simp [intOf]
        · obtain rfl := hL.out
          have d1 := keep1 hB.out q2
          have hsz := hB.out.size
          have ho := hO.out
          clear hL
          go_wp2_with (at_builtin; refine wpList_append_lk rfl _ _ rfl w.heap.size _ _ rfl hO.out a2 c2 X2 (by rw [← HN2.out]; rfl) (H2.out.below hB.out) HC2.out ?qc4 hsz ?_)
          case qc4 => have := HN1.out; have := HN2.out; omega
          intro v' w4 hown hgrow
          have O4 := hid hown
          have B4 : Hid (Below w.heap.size w w4) := hB.out.grown hgrow hsz (fun q hq => (ho.lt q hq).1)
          obtain ⟨a4, k4, rfl, _⟩ := hown.at_
          clear hown hgrow hO hB ho
          go_wp2_with fail
          go_roundw
          case rel => exact ⟨a4, k4, _, rfl, O4, B4, .inr (.inr ⟨rfl, hid rfl⟩)⟩
          case measure => simp [intOf]
        · obtain rfl := hL.out
          clear hL
          go_wp2_with fail
          go_ret
          exact ⟨_, rfl, hO.out, hB.out⟩

end Go.Proofs.Ytjoaedkgjnchoaj.PLock
