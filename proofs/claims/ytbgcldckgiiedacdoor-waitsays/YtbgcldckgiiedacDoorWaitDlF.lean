/- Go's slices.DeleteFunc at edges, walked, over the reference's test: what is left of a row of one's own, in that row. Conditions: how many edges there are. -/
import Derived.Test.YtbgcldckgiiedacDoorWaitNum
import Derived.Test.YtbgcldckgiiedacDoorWaitLib
import Derived.Test.YtbgcldckgiiedacDoorGraphIdx
namespace Go.Proofs.YtbgcldckgiiedacDoor.PWait
open Go Go.RowKit PPool PGraph
set_option maxRecDepth 100000

theorem touch_any (w : World) (x : Gr.Ed) (q : Addr) (t : Int) (h : w.cell? q = some (.int .i64 t)) :
    Calls Tryd.prog 19 #[.agg #[.int .i64 x.f, .int .i64 x.t], .pointer (some q)] w fun e w' => e = .returned (.bool (Wa.touches t x)) ∧ Below w.heap.size w w' := by
  obtain ⟨xx, xm⟩ := x
  have h2 : ∀ T, (w.alloc (.cells #[.int .i64 xx, .int .i64 xm] T)).cell? q = some (.int .i64 t) := fun T => keep1 (bx _ _) h
  by_cases h1 : xx = t
  · have j1 : (xx == t) = true := by simp [h1]
    have HT : Hid (Wa.touches t ⟨xx, xm⟩ = true) := by show _ = _; simp [Wa.touches, h1]
    clear h1
    go_enter Tryd.func19, Tryd.ntmps19
    go_wp2_with fail
    go_ret
    exact ⟨by rw [HT.out]; rfl, bx _ _⟩
  · have j1 : (xx == t) = false := by simpa using h1
    have HT : Hid (Wa.touches t ⟨xx, xm⟩ = decide (xm = t)) := by show _ = _; simp [Wa.touches, h1]
    clear h1
    go_enter Tryd.func19, Tryd.ntmps19
    go_wp2_with fail
    go_ret
    exact ⟨by rw [HT.out]; first | rfl | (congr 1; simp) , bx _ _⟩

/-- What is left of the first k. -/
def leftTo (X : List Gr.Ed) (t : Int) (k : Nat) : List Gr.Ed := Wa.wo (X.take k) t
theorem leftTo_next {X : List Gr.Ed} {t : Int} {k : Nat} {x : Gr.Ed} (hx : X[k]? = some x) : leftTo X t (k + 1) = leftTo X t k ++ (if Wa.touches t x = true then [] else [x]) := by
  obtain ⟨h1, h2⟩ := List.getElem?_eq_some_iff.1 hx
  unfold leftTo Wa.wo
  rw [List.take_succ_eq_append_getElem h1, h2, List.filter_append]
  congr 1
  by_cases e : Wa.touches t x = true
  · rw [if_pos e]; simp [e]
  · rw [if_neg e]; simp [e]
theorem leftTo_len (X : List Gr.Ed) (t : Int) (k : Nat) : (leftTo X t k).length ≤ k := by
  unfold leftTo Wa.wo
  exact Nat.le_trans (List.length_filter_le _ _) (by rw [List.length_take]; exact Nat.min_le_left _ _)
theorem left_set {X F : List Gr.Ed} {m : Nat} {x : Gr.Ed} (hF : F.length = m) (hm : m < X.length) : (F ++ X.drop m).set m x = (F ++ [x]) ++ X.drop (m + 1) := by
  subst hF
  rw [List.set_append_right _ _ (Nat.le_refl _), Nat.sub_self, List.drop_eq_getElem_cons hm, List.set_cons_zero, List.append_assoc]
  rfl

set_option maxHeartbeats 4000000 in
theorem delete_any (w : World) (base : Nat) (v : Value) (X : List Gr.Ed) (q : Addr) (t : Int) (h : OwnPg w base v X) (hq : w.cell? q = some (.int .i64 t)) (hne : v.ownBlock ≠ some q.block) (hl : X.length ≤ 2000) :
    Calls Tryd.prog 18 #[v, .func (.func 19) #[] #[.pointer (some q)]] w fun e w' => ∃ v', e = .returned v' ∧ OwnPg w' base v' (Wa.wo X t) ∧ v'.ownBlock = v.ownBlock ∧ Goes (ownB v) w w' (ownB v) := by
  have hqb := World.block_lt_of_cell? w _ hq
  obtain ⟨a, c, rfl, hp, hg, h1, h2⟩ := h.at_
  have KI := hid (idxE_any w a c X 19 #[.pointer (some q)] (fun x => Wa.touches t x) (fun args W => rfl) (fun W x _ hW => touch_any W x q t (keep1 hW hq)) hp (by omega))
  by_cases hi : X.findIdx (fun x => Wa.touches t x) = X.length
  · have e1 : ixF (fun x => Wa.touches t x) X = -1 := by unfold ixF; rw [if_pos hi]
    have e2 : Wa.wo X t = X := by
      unfold Wa.wo
      rw [List.filter_eq_self]
      intro x hx
      rw [List.findIdx_eq_length] at hi
      have := hi x hx
      simpa using this
    rw [e1] at KI
    rw [e2]
    have H := hid h
    clear h hp e1 e2 hi hq hne
    go_enter Tryd.func18, Tryd.ntmps18
    go_wp2_with fail
    refine KI.out.mono ?_
    rintro r w1 ⟨rfl, hb⟩
    have O1 : Hid (OwnPg w1 base (.slice a X.length c) X) := H.out.below hb
    have G1 : Hid (Goes (ownB (.slice a X.length c)) w w1 (ownB (.slice a X.length c))) := goes_of_below hb
    clear hb
    go_wp2_with fail
    go_ret
    exact ⟨_, rfl, O1.out, rfl, G1.out⟩
  · have hilt : X.findIdx (fun x => Wa.touches t x) < X.length := by
      have := List.findIdx_le_length (xs := X) (p := fun x => Wa.touches t x)
      omega
    have e1 : ixF (fun x => Wa.touches t x) X = (X.findIdx (fun x => Wa.touches t x) : Int) := by unfold ixF; rw [if_neg hi]
    have e3 : leftTo X t (X.findIdx (fun x => Wa.touches t x) + 1) = X.take (X.findIdx (fun x => Wa.touches t x)) := by
      have hx : X[X.findIdx (fun x => Wa.touches t x)]? = some (X[X.findIdx (fun x => Wa.touches t x)]'hilt) := List.getElem?_eq_getElem hilt
      have hp := List.findIdx_getElem (xs := X) (p := fun x => Wa.touches t x) (w := hilt)
      rw [leftTo_next hx, if_pos (by simpa using hp), List.append_nil]
      unfold leftTo Wa.wo
      rw [List.filter_eq_self]
      intro y hy
      obtain ⟨j, hj, e⟩ := List.getElem_of_mem hy
      rw [List.length_take] at hj
      rw [List.getElem_take] at e
      have := List.not_of_lt_findIdx (xs := X) (p := fun x => Wa.touches t x) (i := j) (by omega)
      rw [e] at this
      simpa using this
    rw [e1] at KI
    generalize X.findIdx (fun x => Wa.touches t x) = p at *
    obtain ⟨g, c', e, _⟩ := h.some (by omega)
    injection e with ea _ ec
    subst ea
    have hqg : q.block ≠ g := fun e => hne (by rw [e]; rfl)
    obtain ⟨N, hN⟩ : ∃ N, N = X.length := ⟨_, rfl⟩
    have hNI : (N : Int) ≤ 2000 := by omega
    have hNc : (N : Int) ≤ (c : Int) := by omega
    have hNc' : N ≤ c := by omega
    have hcm : (c : Int) ≤ 9223372036854775807 := by unfold maxLen at h2; omega
    have H0 : Hid (OwnPg w base (.slice (some ⟨g, 0, none⟩) N c) (leftTo X t (p + 1) ++ X.drop p)) := by
      show OwnPg _ _ _ _
      rw [e3, List.take_append_drop, hN]; exact h
    have hHN := hid hN
    have hm0 : Hid ((leftTo X t (p + 1)).length = p) := by show _ = _; rw [e3, List.length_take]; omega
    have HQ := hid hq
    have KX := hid fun W x h => touch_any W x q t h
    have p1 : (p : Int) < (N : Int) := by omega
    have hw1 : IntKind.i64.wrap ((p : Int) + 1) = (p : Int) + 1 := IntWalk.i64_in _ ⟨by omega, by omega⟩
    have hgb := h.ge
    rw [← hN] at KI ⊢
    clear hq hne e1 e3 hi h hp hilt hg hN ec h1 h2 hl
    go_enter Tryd.func18, Tryd.ntmps18
    go_wp2_with fail
    refine KI.out.mono ?_
    rintro r w1 ⟨rfl, hb⟩
    have O1 : Hid (OwnPg w1 base (.slice (some ⟨g, 0, none⟩) N c) (leftTo X t (p + 1) ++ X.drop p)) := H0.out.below hb
    have G1 : Hid (Goes (fun b => b = g) w w1 (fun b => b = g)) := goes_of_below hb
    clear hb H0 KI
    go_wp2_with fail
    go_loopw [5, 6] (fun u j wr => ∃ m k : Nat, k ≤ N ∧ m < k ∧ u = .int .i64 (m : Int) ∧ j = .int .i64 (k : Int) ∧ Hid ((leftTo X t k).length = m) ∧ Hid (OwnPg wr base (.slice (some ⟨g, 0, none⟩) N c) (leftTo X t k ++ X.drop m)) ∧ Hid (Goes (fun b => b = g) w wr (fun b => b = g))) (fun _ j _ => N - (intOf j).toNat)
    case atStart => exact ⟨p, p + 1, by omega, by omega, rfl, by go_num, hm0, O1, G1⟩
    case round =>
      clear O1 G1
      obtain ⟨m, k, hk, hmk, rfl, rfl, hm, hO, hG⟩ := hrel
      have hcell : w.cell? q = some (.int .i64 t) := HQ.out
      have hqr : wr.cell? q = some (.int .i64 t) := (World.cell?_of_block (hG.out.block _ hqb hqg)).trans hcell
      have hlen := hm.out
      by_cases hlt : k < N
      · obtain ⟨x, hx⟩ : ∃ x, X[k]? = some x := ⟨_, List.getElem?_eq_getElem (by have := hHN.out; omega)⟩
        have hrow : (leftTo X t k ++ X.drop m)[k]? = some x := by
          rw [List.getElem?_append_right (by omega), List.getElem?_drop, hlen, show m + (k - m) = k by omega]
          exact hx
        obtain ⟨d1, d2⟩ := hO.out.cells hrow
        have k0 : (0 : Int) ≤ (k : Int) := by omega
        have k1 : (k : Int) < (N : Int) := by omega
        have m0 : (0 : Int) ≤ (m : Int) := by omega
        have m1 : (m : Int) < (N : Int) := by omega
        have hwk : IntKind.i64.wrap ((k : Int) + 1) = (k : Int) + 1 := IntWalk.i64_in _ ⟨by omega, by omega⟩
        have hwm : IntKind.i64.wrap ((m : Int) + 1) = (m : Int) + 1 := IntWalk.i64_in _ ⟨by omega, by omega⟩
        have HX := hid (leftTo_next (t := t) hx)
        have K2 := hid (KX.out (wr.alloc (.cells #[.int .i64 x.f, .int .i64 x.t] 34)) x (keep1 (bx _ _) hqr))
        have O3 : Hid (OwnPg (wr.alloc (.cells #[.int .i64 x.f, .int .i64 x.t] 34)) base (.slice (some ⟨g, 0, none⟩) N c) (leftTo X t k ++ X.drop m)) := hO.out.below (bx _ _)
        have G3 : Hid (Goes (fun b => b = g) w (wr.alloc (.cells #[.int .i64 x.f, .int .i64 x.t] 34)) (fun b => b = g)) := goes_below hG.out (bx _ _)
        have NX : Hid (¬ Wa.touches t x = true → leftTo X t (k + 1) = leftTo X t k ++ [x]) := fun e => by rw [HX.out, if_neg e]
        have NS : Hid (Wa.touches t x = true → leftTo X t (k + 1) = leftTo X t k) := fun e => by rw [HX.out, if_pos e, List.append_nil]
        have HS := hid (left_set (X := X) (x := x) hlen (by have := hHN.out; omega))
        obtain ⟨tv, htv⟩ : ∃ tv, tv = Wa.touches t x := ⟨_, rfl⟩
        rw [← htv] at K2 NX NS
        obtain ⟨xx, xm⟩ := x
        simp only at d1 d2 K2 O3 G3 NX NS
        clear hx hrow hO hG hcell hqr HX hlen htv
        by_cases e : tv = true
        · have NS := hid (NS.out e)
          rw [e] at K2
          clear NX e
          go_wp2_with fail
          refine K2.out.mono ?_
          rintro r w2 ⟨rfl, hb⟩
          have O4 : Hid (OwnPg w2 base (.slice (some ⟨g, 0, none⟩) N c) (leftTo X t (k + 1) ++ X.drop m)) := by show OwnPg _ _ _ _; rw [NS.out]; exact O3.out.below hb
          have G4 : Hid (Goes (fun b => b = g) w w2 (fun b => b = g)) := goes_below G3.out hb
          have hm2 : Hid ((leftTo X t (k + 1)).length = m) := by show _ = _; rw [NS.out]; exact hm.out
          clear hb O3 G3 K2 hm
          go_wp2_with fail
          go_roundw
          case rel => first
            | exact ⟨m, k + 1, by omega, by omega, rfl, by go_num, hm2, O4, G4⟩
            | ((repeat apply Exists.intro); exact ⟨⟨m, k + 1, by omega, by omega, rfl, by go_num, hm2, O4, G4⟩, rfl⟩)
          case measure => simp [intOf]; omega
        · have NX := hid (NX.out e)
          rw [Bool.eq_false_iff.2 e] at K2
          clear NS e
          go_wp2_with fail
          refine K2.out.mono ?_
          rintro r w2 ⟨rfl, hb⟩
          obtain ⟨f0, f1⟩ := box2 hb
          have O4 : Hid (OwnPg w2 base (.slice (some ⟨g, 0, none⟩) N c) (leftTo X t k ++ X.drop m)) := O3.out.below hb
          have G4 : Hid (Goes (fun b => b = g) w w2 (fun b => b = g)) := goes_below G3.out hb
          have hmlt : m < (leftTo X t k ++ X.drop m).length := by rw [List.length_append, hm.out, List.length_drop, ← hHN.out]; omega
          obtain ⟨y, hy⟩ : ∃ y, (leftTo X t k ++ X.drop m)[m]? = some y := ⟨_, List.getElem?_eq_getElem hmlt⟩
          obtain ⟨s1, s2, s3, s4⟩ := O4.out.spot hy
          have O5 : Hid (OwnPg ((w2.setCell ⟨g, m * 2, none⟩ (.int .i64 xx)).setCell ⟨g, m * 2 + 1, none⟩ (.int .i64 xm)) base (.slice (some ⟨g, 0, none⟩) N c) (leftTo X t (k + 1) ++ X.drop (m + 1))) := by
            show OwnPg _ _ _ _
            rw [NX.out, ← HS.out]; exact O4.out.put m hmlt xx xm
          have G5 : Hid (Goes (fun b => b = g) w ((w2.setCell ⟨g, m * 2, none⟩ (.int .i64 xx)).setCell ⟨g, m * 2 + 1, none⟩ (.int .i64 xm)) (fun b => b = g)) := (G4.out.setCell (q := ⟨g, m * 2, none⟩) (.inl rfl) _).setCell (q := ⟨g, m * 2 + 1, none⟩) (.inl rfl) _
          have hm2 : Hid ((leftTo X t (k + 1)).length = m + 1) := by show _ = _; rw [NX.out, List.length_append, hm.out]; rfl
          clear hb O3 G3 K2 hm O4 G4 HS hy hmlt
          go_wp2_with fail
          go_roundw
          case rel => first
            | exact ⟨m + 1, k + 1, by omega, by omega, by go_num, by go_num, hm2, O5, G5⟩
            | ((repeat apply Exists.intro); exact ⟨⟨m + 1, k + 1, by omega, by omega, by go_num, by go_num, hm2, O5, G5⟩, rfl⟩)
          case measure => simp [intOf]; omega
      · obtain rfl : k = N := by omega
        have j3 : decide ((k : Int) < (k : Int)) = false := by simp
        have e1 : leftTo X t k = Wa.wo X t := by unfold leftTo; rw [hHN.out, List.take_length]
        rw [e1] at hO hlen
        have hlen2 : (Wa.wo X t ++ X.drop m).length = k := by
          have h := own_len hO.out
          exact h.symm
        have hcl := fun ty cc => run_clear_pg hO.out ty m (k - m) cc (by omega) (by omega)
        have O2 := own_lay hO.out m (List.replicate (k - m) Gr.zero') (by omega) (by rw [List.length_replicate]; omega)
        have HO : Hid (OwnPg (wr.setCells g (m * 2) ((List.replicate (k - m) Gr.zero').flatMap sc)) base (.slice (some ⟨g, 0, none⟩) m c) (Wa.wo X t)) := by
          have e3 : ((Wa.wo X t ++ X.drop m).take m ++ List.replicate (k - m) Gr.zero' ++ (Wa.wo X t ++ X.drop m).drop (m + (List.replicate (k - m) Gr.zero').length)).take m = Wa.wo X t := by
            rw [List.append_assoc, List.take_append_of_le_length (by rw [List.length_take]; omega), List.take_take, Nat.min_self, List.take_left' hlen]
          have := own_front O2 m (by simp; omega) rfl
          rw [e3] at this
          exact this
        have HG := hid (goes_lay hG.out (m * 2) ((List.replicate (k - m) Gr.zero').flatMap sc))
        have b4 : ¬ (c = m) := by omega
        have b5 : (m : Int) ≤ (k : Int) := by omega
        have b6 : (0 : Int) ≤ (m : Int) := by omega
        have b7 : (m : Int) ≤ (c : Int) := by omega
        generalize (List.replicate (k - m) Gr.zero').flatMap sc = zs at *
        have u := Tryd.underlying22
        have z := Tryd.sizeOf34
        clear hO hG e1 hlen hlen2 O2 hm hcell hqr
        go_wp2_with fail
        go_ret
        have eo : ownB (.slice (some ⟨g, 0, none⟩) k c) = fun b => b = g := by funext b; simp [ownB, Value.ownBlock, eq_comm]
        exact ⟨_, rfl, HO.out, rfl, by rw [eo]; exact HG.out⟩
end Go.Proofs.YtbgcldckgiiedacDoor.PWait
