/- lock.without's test and Go's slices.DeleteFunc at it, walked: what is left of a row of one's own, in that row. Conditions: how many locks there are. -/
import Derived.Test.YtjoaedkgjnchoanLockIdx
namespace Go.Proofs.Ytjoaedkgjnchoan.PLock
open Go Go.RowKit PPool
set_option maxRecDepth 100000

theorem isOfTx_any (w : World) (x : Lk.Lo) (q : Addr) (t : Int) (h : w.cell? q = some (.int .i64 t)) :
    Calls Try.prog 73 #[.agg #[.int .i64 x.x, .int .i64 x.m], .pointer (some q)] w fun e w' => e = .returned (.bool (decide (x.x = t))) ∧ Below w.heap.size w w' := by
  obtain ⟨xx, xm⟩ := x
  have h2 : ∀ T, (w.alloc (.cells #[.int .i64 xx, .int .i64 xm] T)).cell? q = some (.int .i64 t) := fun T => keep1 (bx _ _) h
  go_enter Try.func73, Try.ntmps73
  go_wp2_with fail
  go_ret
  exact ⟨rfl, bx _ _⟩

/-- What is left of the first k. -/
def leftTo (X : List Lk.Lo) (t : Int) (k : Nat) : List Lk.Lo := Lk.less (X.take k) t
theorem leftTo_next {X : List Lk.Lo} {t : Int} {k : Nat} {x : Lk.Lo} (hx : X[k]? = some x) : leftTo X t (k + 1) = leftTo X t k ++ (if x.x = t then [] else [x]) := by
  obtain ⟨h1, h2⟩ := List.getElem?_eq_some_iff.1 hx
  unfold leftTo Lk.less
  rw [List.take_succ_eq_append_getElem h1, h2, List.filter_append]
  congr 1
  by_cases e : x.x = t
  · rw [if_pos e]; simp [e]
  · rw [if_neg e]; simp [e]
theorem leftTo_len (X : List Lk.Lo) (t : Int) (k : Nat) : (leftTo X t k).length ≤ k := by
  unfold leftTo Lk.less
  exact Nat.le_trans (List.length_filter_le _ _) (by rw [List.length_take]; exact Nat.min_le_left _ _)
theorem left_set {X F : List Lk.Lo} {m : Nat} {x : Lk.Lo} (hF : F.length = m) (hm : m < X.length) : (F ++ X.drop m).set m x = (F ++ [x]) ++ X.drop (m + 1) := by
  subst hF
  rw [List.set_append_right _ _ (Nat.le_refl _), Nat.sub_self, List.drop_eq_getElem_cons hm, List.set_cons_zero, List.append_assoc]
  rfl

set_option maxHeartbeats 4000000 in
theorem deleteTx_any (w : World) (base : Nat) (v : Value) (X : List Lk.Lo) (q : Addr) (t : Int) (h : OwnLk w base v X) (hq : w.cell? q = some (.int .i64 t)) (hne : v.ownBlock ≠ some q.block) (hl : X.length ≤ 2000) :
    Calls Try.prog 74 #[v, .func (.func 73) #[] #[.pointer (some q)]] w fun e w' => ∃ v', e = .returned v' ∧ OwnLk w' base v' (Lk.less X t) ∧ v'.ownBlock = v.ownBlock ∧ Goes (ownB v) w w' (ownB v) := by
  have hqb := World.block_lt_of_cell? w _ hq
  obtain ⟨a, c, rfl, hp, hg, h1, h2⟩ := h.at_
  have KI := hid (index_any w a c X 73 #[.pointer (some q)] (fun x => decide (x.x = t)) (fun args W => rfl) (fun W x _ hW => isOfTx_any W x q t (keep1 hW hq)) hp (by omega))
  by_cases hi : X.findIdx (fun x => decide (x.x = t)) = X.length
  · have e1 : ixF (fun x => decide (x.x = t)) X = -1 := by unfold ixF; rw [if_pos hi]
    have e2 : Lk.less X t = X := by
      unfold Lk.less
      rw [List.filter_eq_self]
      intro x hx
      rw [List.findIdx_eq_length] at hi
      have := hi x hx
      simpa using this
    rw [e1] at KI
    rw [e2]
    have H := hid h
    clear h hp e1 e2 hi hq hne
    go_enter Try.func74, Try.ntmps74
    go_wp2_with fail
    refine KI.out.mono ?_
    rintro r w1 ⟨rfl, hb⟩
    have O1 : Hid (OwnLk w1 base (.slice a X.length c) X) := H.out.below hb
    have G1 : Hid (Goes (ownB (.slice a X.length c)) w w1 (ownB (.slice a X.length c))) := goes_of_below hb
    clear hb
    go_wp2_with fail
    go_ret
    exact ⟨_, rfl, O1.out, rfl, G1.out⟩
  · have hilt : X.findIdx (fun x => decide (x.x = t)) < X.length := by
      have := List.findIdx_le_length (xs := X) (p := fun x => decide (x.x = t))
      omega
    have e1 : ixF (fun x => decide (x.x = t)) X = (X.findIdx (fun x => decide (x.x = t)) : Int) := by unfold ixF; rw [if_neg hi]
    have e3 : leftTo X t (X.findIdx (fun x => decide (x.x = t)) + 1) = X.take (X.findIdx (fun x => decide (x.x = t))) := by
      have hx : X[X.findIdx (fun x => decide (x.x = t))]? = some (X[X.findIdx (fun x => decide (x.x = t))]'hilt) := List.getElem?_eq_getElem hilt
      have hp := List.findIdx_getElem (xs := X) (p := fun x => decide (x.x = t)) (w := hilt)
      rw [leftTo_next hx, if_pos (by simpa using hp), List.append_nil]
      unfold leftTo Lk.less
      rw [List.filter_eq_self]
      intro y hy
      obtain ⟨j, hj, e⟩ := List.getElem_of_mem hy
      rw [List.length_take] at hj
      rw [List.getElem_take] at e
      have := List.not_of_lt_findIdx (xs := X) (p := fun x => decide (x.x = t)) (i := j) (by omega)
      rw [e] at this
      simpa using this
    rw [e1] at KI
    generalize X.findIdx (fun x => decide (x.x = t)) = p at *
    obtain ⟨g, c', e, _⟩ := h.some (by omega)
    injection e with ea _ ec
    subst ea
    have hqg : q.block ≠ g := fun e => hne (by rw [e]; rfl)
    obtain ⟨N, hN⟩ : ∃ N, N = X.length := ⟨_, rfl⟩
    have hNI : (N : Int) ≤ 2000 := by omega
    have hNc : (N : Int) ≤ (c : Int) := by omega
    have hNc' : N ≤ c := by omega
    have hcm : (c : Int) ≤ 9223372036854775807 := by unfold maxLen at h2; omega
    have H0 : Hid (OwnLk w base (.slice (some ⟨g, 0, none⟩) N c) (leftTo X t (p + 1) ++ X.drop p)) := by
      show OwnLk _ _ _ _
      rw [e3, List.take_append_drop, hN]; exact h
    have hHN := hid hN
    have hm0 : Hid ((leftTo X t (p + 1)).length = p) := by show _ = _; rw [e3, List.length_take]; omega
    have HQ := hid hq
    have KX := hid fun W x h => isOfTx_any W x q t h
    have p1 : (p : Int) < (N : Int) := by omega
    have hw1 : IntKind.i64.wrap ((p : Int) + 1) = (p : Int) + 1 := IntWalk.i64_in _ ⟨by omega, by omega⟩
    have hgb := h.ge
    rw [← hN] at KI ⊢
    clear hq hne e1 e3 hi h hp hilt hg hN ec h1 h2 hl
    go_enter Try.func74, Try.ntmps74
    go_wp2_with fail
    refine KI.out.mono ?_
    rintro r w1 ⟨rfl, hb⟩
    have O1 : Hid (OwnLk w1 base (.slice (some ⟨g, 0, none⟩) N c) (leftTo X t (p + 1) ++ X.drop p)) := H0.out.below hb
    have G1 : Hid (Goes (fun b => b = g) w w1 (fun b => b = g)) := goes_of_below hb
    clear hb H0 KI
    go_wp2_with fail
    go_loopw [5, 6] (fun u j wr => ∃ m k : Nat, k ≤ N ∧ m < k ∧ u = .int .i64 (m : Int) ∧ j = .int .i64 (k : Int) ∧ Hid ((leftTo X t k).length = m) ∧ Hid (OwnLk wr base (.slice (some ⟨g, 0, none⟩) N c) (leftTo X t k ++ X.drop m)) ∧ Hid (Goes (fun b => b = g) w wr (fun b => b = g))) (fun _ j _ => N - (intOf j).toNat)
    case atStart => exact ⟨p, p + 1, by omega, by omega, rfl, by go_num, hm0, O1, G1⟩
    case round =>
      clear O1 G1
      obtain ⟨m, k, hk, hmk, rfl, rfl, hm, hO, hG⟩ := hrel
      have hcell : w.cell? q = some (.int .i64 t) := HQ.out
      have hqr : wr.cell? q = some (.int .i64 t) := (World.cell?_of_block (hG.out.block _ hqb hqg)).trans hcell
      have hlen := hm.out
      by_cases hlt : k < N
      · obtain ⟨x, hx⟩ : ∃ x, X[k]? = some x := ⟨_, List.getElem?_eq_getElem (by have := hHN.out; omega)⟩
        have hrow : (leftTo X t k ++ X.drop m)[k]? = some x := by
          rw [List.getElem?_append_right (by omega), List.getElem?_drop, hlen, show m + (k - m) = k by omega]
          exact hx
        obtain ⟨d1, d2⟩ := hO.out.cells hrow
        have k0 : (0 : Int) ≤ (k : Int) := by omega
        have k1 : (k : Int) < (N : Int) := by omega
        have m0 : (0 : Int) ≤ (m : Int) := by omega
        have m1 : (m : Int) < (N : Int) := by omega
        have hwk : IntKind.i64.wrap ((k : Int) + 1) = (k : Int) + 1 := IntWalk.i64_in _ ⟨by omega, by omega⟩
        have hwm : IntKind.i64.wrap ((m : Int) + 1) = (m : Int) + 1 := IntWalk.i64_in _ ⟨by omega, by omega⟩
        have HX := hid (leftTo_next (t := t) hx)
        have K2 := hid (KX.out (wr.alloc (.cells #[.int .i64 x.x, .int .i64 x.m] 62)) x (keep1 (bx _ _) hqr))
        have O3 : Hid (OwnLk (wr.alloc (.cells #[.int .i64 x.x, .int .i64 x.m] 62)) base (.slice (some ⟨g, 0, none⟩) N c) (leftTo X t k ++ X.drop m)) := hO.out.below (bx _ _)
        have G3 : Hid (Goes (fun b => b = g) w (wr.alloc (.cells #[.int .i64 x.x, .int .i64 x.m] 62)) (fun b => b = g)) := goes_below hG.out (bx _ _)
        have NX : Hid (x.x ≠ t → leftTo X t (k + 1) = leftTo X t k ++ [x]) := fun e => by rw [HX.out, if_neg e]
        have NS : Hid (x.x = t → leftTo X t (k + 1) = leftTo X t k) := fun e => by rw [HX.out, if_pos e, List.append_nil]
        have HS := hid (left_set (X := X) (x := x) hlen (by have := hHN.out; omega))
        obtain ⟨xx, xm⟩ := x
        simp only at d1 d2 K2 O3 G3 NX NS
        clear hx hrow hO hG hcell hqr HX hlen
        by_cases e : xx = t
        · have NS := hid (NS.out e)
          rw [decide_eq_true e] at K2
          clear NX e
          go_wp2_with fail
          refine K2.out.mono ?_
          rintro r w2 ⟨rfl, hb⟩
          have O4 : Hid (OwnLk w2 base (.slice (some ⟨g, 0, none⟩) N c) (leftTo X t (k + 1) ++ X.drop m)) := by show OwnLk _ _ _ _; rw [NS.out]; exact O3.out.below hb
          have G4 : Hid (Goes (fun b => b = g) w w2 (fun b => b = g)) := goes_below G3.out hb
          have hm2 : Hid ((leftTo X t (k + 1)).length = m) := by show _ = _; rw [NS.out]; exact hm.out
          clear hb O3 G3 K2 hm
          go_wp2_with fail
          go_roundw
          case rel => first
            | exact ⟨m, k + 1, by omega, by omega, rfl, by go_num, hm2, O4, G4⟩
            | ((repeat apply Exists.intro); exact ⟨⟨m, k + 1, by omega, by omega, rfl, by go_num, hm2, O4, G4⟩, rfl⟩)
          case measure => simp [intOf]; omega
        · have NX := hid (NX.out e)
          rw [decide_eq_false e] at K2
          clear NS e
          go_wp2_with fail
          refine K2.out.mono ?_
          rintro r w2 ⟨rfl, hb⟩
          obtain ⟨f0, f1⟩ := box2 hb
          have O4 : Hid (OwnLk w2 base (.slice (some ⟨g, 0, none⟩) N c) (leftTo X t k ++ X.drop m)) := O3.out.below hb
          have G4 : Hid (Goes (fun b => b = g) w w2 (fun b => b = g)) := goes_below G3.out hb
          have hmlt : m < (leftTo X t k ++ X.drop m).length := by rw [List.length_append, hm.out, List.length_drop, ← hHN.out]; omega
          obtain ⟨y, hy⟩ : ∃ y, (leftTo X t k ++ X.drop m)[m]? = some y := ⟨_, List.getElem?_eq_getElem hmlt⟩
          obtain ⟨s1, s2, s3, s4⟩ := O4.out.spot hy
          have O5 : Hid (OwnLk ((w2.setCell ⟨g, m * 2, none⟩ (.int .i64 xx)).setCell ⟨g, m * 2 + 1, none⟩ (.int .i64 xm)) base (.slice (some ⟨g, 0, none⟩) N c) (leftTo X t (k + 1) ++ X.drop (m + 1))) := by
            show OwnLk _ _ _ _
            rw [NX.out, ← HS.out]; exact O4.out.put m hmlt xx xm
          have G5 : Hid (Goes (fun b => b = g) w ((w2.setCell ⟨g, m * 2, none⟩ (.int .i64 xx)).setCell ⟨g, m * 2 + 1, none⟩ (.int .i64 xm)) (fun b => b = g)) := (G4.out.setCell (q := ⟨g, m * 2, none⟩) (.inl rfl) _).setCell (q := ⟨g, m * 2 + 1, none⟩) (.inl rfl) _
          have hm2 : Hid ((leftTo X t (k + 1)).length = m + 1) := by show _ = _; rw [NX.out, List.length_append, hm.out]; rfl
          clear hb O3 G3 K2 hm O4 G4 HS hy hmlt
          go_wp2_with fail
          go_roundw
          case rel => first
            | exact ⟨m + 1, k + 1, by omega, by omega, by go_num, by go_num, hm2, O5, G5⟩
            | ((repeat apply Exists.intro); exact ⟨⟨m + 1, k + 1, by omega, by omega, by go_num, by go_num, hm2, O5, G5⟩, rfl⟩)
          case measure => simp [intOf]; omega
      · obtain rfl : k = N := by omega
        have j3 : decide ((k : Int) < (k : Int)) = false := by simp
        have e1 : leftTo X t k = Lk.less X t := by unfold leftTo; rw [hHN.out, List.take_length]
        rw [e1] at hO hlen
        have hlen2 : (Lk.less X t ++ X.drop m).length = k := by
          have h := own_len hO.out
          exact h.symm
        have hcl := fun ty cc => run_clear_lk hO.out ty m (k - m) cc (by omega) (by omega)
        have O2 := own_lay hO.out m (List.replicate (k - m) Lk.zero') (by omega) (by rw [List.length_replicate]; omega)
        have HO : Hid (OwnLk (wr.setCells g (m * 2) ((List.replicate (k - m) Lk.zero').flatMap lc)) base (.slice (some ⟨g, 0, none⟩) m c) (Lk.less X t)) := by
          have e3 : ((Lk.less X t ++ X.drop m).take m ++ List.replicate (k - m) Lk.zero' ++ (Lk.less X t ++ X.drop m).drop (m + (List.replicate (k - m) Lk.zero').length)).take m = Lk.less X t := by
            rw [List.append_assoc, List.take_append_of_le_length (by rw [List.length_take]; omega), List.take_take, Nat.min_self, List.take_left' hlen]
          have := own_front O2 m (by simp; omega) rfl
          rw [e3] at this
          exact this
        have HG := hid (goes_lay hG.out (m * 2) ((List.replicate (k - m) Lk.zero').flatMap lc))
        have b4 : ¬ (c = m) := by omega
        have b5 : (m : Int) ≤ (k : Int) := by omega
        have b6 : (0 : Int) ≤ (m : Int) := by omega
        have b7 : (m : Int) ≤ (c : Int) := by omega
        generalize (List.replicate (k - m) Lk.zero').flatMap lc = zs at *
        have u := Try.underlying64
        have z := Try.sizeOf62
        clear hO hG e1 hlen hlen2 O2 hm hcell hqr
        go_wp2_with fail
        go_ret
        have eo : ownB (.slice (some ⟨g, 0, none⟩) k c) = fun b => b = g := by funext b; simp [ownB, Value.ownBlock, eq_comm]
        exact ⟨_, rfl, HO.out, rfl, by rw [eo]; exact HG.out⟩
end Go.Proofs.Ytjoaedkgjnchoan.PLock
