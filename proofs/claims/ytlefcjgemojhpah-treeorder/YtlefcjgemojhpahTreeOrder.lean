/- quirkeep.TreeOrder, walked: true, whatever the deeds, the key and the number. -/
import Derived.Test.YtlefcjgemojhpahTreeTwo
import Derived.RangeFuncBox
import Derived.RangeFuncNested
namespace Go.Proofs.Ytlefcjgemojhpah.PTree
open Go Go.RowKit PPool
set_option maxRecDepth 100000
attribute [local go_sem] Oper.semAt_some
theorem no_panic {F : Fence} {n : Nat} {P : Program} {c : Code} {K : Act → World → Prop} {Q' : Exit → Act → World → Prop} {a : Act} {w : World} (h : c.wpIn F n P (Exit.then K (fun _ _ _ => False)) a w) : c.wpIn F n P (Exit.then K Q') a w :=
  Code.wpIn_mono (fun e a w h => by cases e <;> first | exact h | exact h.elim) h
theorem lists_other {a b : ByteArray} (h : ¬ a = b) : ¬ a.toList = b.toList := fun e => h (by
  rw [ByteArray.toList_eq, ByteArray.toList_eq] at e
  cases a; cases b
  simp only at e
  rw [Array.ext' e])
/-- The key that came last. -/
def lastK (fr : Int) (q : List En) : Int := (q.getLast?.map (·.k)).getD fr
theorem lastK_snoc (fr : Int) (q : List En) (x : En) : lastK fr (q ++ [x]) = x.k := by simp [lastK]
theorem come {fr : Int} {L pre : List En} {x : En} (hu : Up L) (h : (pre ++ [x]) <+: ge fr L) : x ∈ L ∧ lastK fr pre ≤ x.k ∧ (pre ≠ [] → lastK fr pre ≠ x.k) := by
  obtain ⟨Y, hY⟩ := h
  have hx : x ∈ ge fr L := by rw [← hY]; simp
  have hg : Up (ge fr L) := hu.filter _
  have h1 := List.mem_filter.1 hx
  refine ⟨h1.1, ?_, fun hn => ?_⟩
  · rcases List.eq_nil_or_concat pre with rfl | ⟨P, y, rfl⟩
    · simpa [lastK] using h1.2
    · rw [List.concat_eq_append] at hY ⊢
      rw [lastK_snoc]
      rw [← hY, Up, List.pairwise_append, List.pairwise_append] at hg
      have := hg.1.2.2 y (by simp) x (by simp)
      omega
  · rcases List.eq_nil_or_concat pre with rfl | ⟨P, y, rfl⟩
    · exact absurd rfl hn
    · rw [List.concat_eq_append] at hY ⊢
      rw [lastK_snoc]
      rw [← hY, Up, List.pairwise_append, List.pairwise_append] at hg
      have := hg.1.2.2 y (by simp) x (by simp)
      omega
theorem ge_le (fr : Int) (L : List En) : (ge fr L).length ≤ L.length := List.length_filter_le ..
theorem TreeAt.up {w : World} {t : Nat} {o : Lab} {L : List En} (T : TreeAt w t o L) : Up L ∧ L.length ≤ 2000 := by
  obtain ⟨M, h, nd, A, T, rfl⟩ := T
  exact ⟨T.up, T.small⟩
set_option maxHeartbeats 8000000 in
theorem order_walk (w : World) (a : Option Addr) (c : Nat) (X : List Kd) (fr mo : Int) (hX : KdAt w a X) (hn : X.length ≤ 140737488355328) (hT : ∀ x ∈ X, x.text.size ≤ 140737488355328) :
    Calls Try.prog 6 #[.slice a X.length c, .int .i64 fr, .int .i64 mo] w fun e w' => e = .returned (.bool true) ∧ Below w.heap.size w w' := by
  have KT := hid treed_any
  have HX := hid hX
  have k1 := callsIn_wide (n := 4).2 (two_treed ((w.alloc (.cells #[.int .i64 mo] 3)).alloc (.cells #[.bool false] 4)))
  rw [World.size_alloc, World.size_alloc] at k1
  have K1 := hid k1
  clear k1
  refine (callsIn_wide (n := 5)).1 ?_
  refine callsIn_of_wp_marks Try.func6 rfl trivial ?_ rfl
  simp only [Try.ntmps6, List.size_toArray, List.length_cons, List.length_nil, Nat.reduceAdd, Nat.reduceSub, Array.replicate_succ, Array.replicate_zero, List.push_toArray, List.append_toArray, List.nil_append, List.cons_append]
  gi_wp2_with fail
  refine ⟨trivial, K1.out.mono ?_⟩
  rintro r w1 ⟨t1, o1, rfl, hT1, hb1⟩
  have HT1 := hid hT1
  have hw : w.heap.size + 2 = ((w.alloc (.cells #[.int .i64 mo] 3)).alloc (.cells #[.bool false] 4)).heap.size := by simp
  have bmo : Boxed w1 w.heap.size 3 (.int .i64 mo) := (hb1.block _ (by rw [← hw]; omega)).trans ((Boxed.new w 3 (.int .i64 mo)).alloc _)
  have bre : Boxed w1 (w.heap.size + 1) 4 (.bool false) := by
    have h := Boxed.new (w.alloc (.cells #[.int .i64 mo] 3)) 4 (.bool false)
    rw [World.size_alloc] at h
    exact (hb1.block _ (by rw [← hw]; omega)).trans h
  have B1 : Hid (Below w.heap.size w w1) := Below.trans (((Below.refl _ w).alloc (Nat.le_refl _) _).alloc (by simp) _) (hb1.mono (by simp; omega))
  have O1 := hid fun q hq => (HT1.out.lt q hq)
  have BMO := hid bmo
  have BRE := hid bre
  clear hT1 hb1 bmo bre hw
  gi_wp2_with fail
  refine ⟨trivial, (callsIn_wide.2 (from_any _ t1 4)).mono ?_⟩
  rintro r w2 ⟨rfl, rfl⟩
  gi_wp2_with fail
  have hs4 : ((((w1.alloc (.cells #[.pointer (some ⟨t1, 0, none⟩)] 46)).alloc (.cells #[.int .i64 0] 3)).alloc (.cells #[.pointer (some ⟨t1, 0, none⟩)] 46)).alloc (.cells #[.int .i64 4] 3)).heap.size = w1.heap.size + 4 := by simp
  have W1a := (Below.refl w1.heap.size w1).alloc (Nat.le_refl _) (.cells #[.pointer (some ⟨t1, 0, none⟩)] 46)
  have x0 := (((Boxed.new w1 46 (.pointer (some ⟨t1, 0, none⟩))).alloc (.cells #[.int .i64 0] 3)).alloc (.cells #[.pointer (some ⟨t1, 0, none⟩)] 46)).alloc (.cells #[.int .i64 4] 3)
  have x1 := ((Boxed.new (w1.alloc (.cells #[.pointer (some ⟨t1, 0, none⟩)] 46)) 3 (.int .i64 0)).alloc (.cells #[.pointer (some ⟨t1, 0, none⟩)] 46)).alloc (.cells #[.int .i64 4] 3)
  have x2 := (Boxed.new ((w1.alloc (.cells #[.pointer (some ⟨t1, 0, none⟩)] 46)).alloc (.cells #[.int .i64 0] 3)) 46 (.pointer (some ⟨t1, 0, none⟩))).alloc (.cells #[.int .i64 4] 3)
  have x3 := Boxed.new (((w1.alloc (.cells #[.pointer (some ⟨t1, 0, none⟩)] 46)).alloc (.cells #[.int .i64 0] 3)).alloc (.cells #[.pointer (some ⟨t1, 0, none⟩)] 46)) 3 (.int .i64 4)
  have x4 := (((BMO.out.alloc (.cells #[.pointer (some ⟨t1, 0, none⟩)] 46)).alloc (.cells #[.int .i64 0] 3)).alloc (.cells #[.pointer (some ⟨t1, 0, none⟩)] 46)).alloc (.cells #[.int .i64 4] 3)
  have x5 := (((BRE.out.alloc (.cells #[.pointer (some ⟨t1, 0, none⟩)] 46)).alloc (.cells #[.int .i64 0] 3)).alloc (.cells #[.pointer (some ⟨t1, 0, none⟩)] 46)).alloc (.cells #[.int .i64 4] 3)
  have B2 : Hid (Below w1.heap.size w1 ((((w1.alloc (.cells #[.pointer (some ⟨t1, 0, none⟩)] 46)).alloc (.cells #[.int .i64 0] 3)).alloc (.cells #[.pointer (some ⟨t1, 0, none⟩)] 46)).alloc (.cells #[.int .i64 4] 3))) := ((W1a.alloc (by simp) _).alloc (by simp; omega) _).alloc (by simp; omega) _
  simp only [World.size_alloc] at x1 x2 x3
  generalize ((((w1.alloc (.cells #[.pointer (some ⟨t1, 0, none⟩)] 46)).alloc (.cells #[.int .i64 0] 3)).alloc (.cells #[.pointer (some ⟨t1, 0, none⟩)] 46)).alloc (.cells #[.int .i64 4] 3)) = W2 at *
  have hsq := tree_seq 4 w1.heap.size 4 W2 t1 o1 _ (HT1.out.below B2.out) O1.out B2.out.size (by intro x hx; simp at hx; rcases hx with rfl | rfl <;> decide) (w1.heap.size + 1 + 1) (w1.heap.size + 1 + 1 + 1) x2.cell x3.cell
  have B3 : Hid (Below w.heap.size w W2) := below_tr B1.out B2.out
  have HW1 : Hid (w.heap.size ≤ w1.heap.size) := B1.out.size
  apply wpIn_rangeFunc_ownF rfl (by omega) (gf := 39) (lb := #[.pointer (some ⟨w1.heap.size + 1 + 1, 0, none⟩), .pointer (some ⟨w1.heap.size + 1 + 1 + 1, 0, none⟩)]) rfl trivial (encs := fun x : En => #[.int .i64 x.k, .string x.t]) (Kp := Below w1.heap.size) (enters_of Try.func39 (by kernel_rfl) rfl) hsq belowK_t (belowK_b (n₀ := w1.heap.size) (w := W2) (by rw [hs4]; omega)) (Below.refl _ _) (fun (x : En) => rfl)
    (fun (q : List En) W => Boxed W (w1.heap.size + 1) 3 (.int .i64 (q.length : Int)) ∧ Boxed W w.heap.size 3 (.int .i64 mo) ∧ Boxed W (w.heap.size + 1) 4 (.bool false) ∧ Boxed W w1.heap.size 46 (.pointer (some ⟨t1, 0, none⟩)) ∧ Below w.heap.size w W)
    (fun co q _ => co = .ret ∧ ¬ q <+: ge 4 [⟨3, ⟨#[98]⟩⟩, ⟨5, ⟨#[97]⟩⟩])
    (OwnFrom.and (Own.from (boxed_own _ _ _) _) (OwnFrom.and (Own.from (boxed_own _ _ _) _) (OwnFrom.and (Own.from (boxed_own _ _ _) _) (OwnFrom.and (Own.from (boxed_own _ _ _) _) (ownFrom_below (Nat.le_refl _) (by have := HW1.out; omega))))))
    (fun co => ownFrom_pure _ _)
    ⟨x1, x4, x5, x0, B3.out⟩
  · intro l x W K hK
    gi_wp2
    exact hK
  · --OK
    rintro l pre x W ⟨b0, b1, b2, b3, hb⟩ hlen
    have c0 := b0.cell
    have f0 := b0.frozen
    have c2 := b2.cell
    have f2 := b2.frozen
    have hl1 : pre.length < 1 := by simpa [ge] using hlen
    have hp0 : (0 : Int) ≤ (pre.length : Int) := by omega
    have hp1 : (pre.length : Int) ≤ 1 := by omega
    by_cases hx : x.k = 5 ∧ x.t = ⟨#[97]⟩
    · obtain ⟨xk, xt⟩ := x
      obtain ⟨rfl, rfl⟩ := hx
      gi_wp2_with fail
      have hq := HW1.out
      exact ⟨KeepsOthers.setCell _ _ _, (Below.refl _ W).setCell (p := ⟨w1.heap.size + 1, 0, none⟩) (by show _ ≤ w1.heap.size + 1; omega) _, by have h := b0.set (.int .i64 ((pre.length : Int) + 1)); simpa using h, b1.other (by omega) _, b2.other (by have := lt_of_heap BRE.out; omega) _, b3.other (by omega) _, hb.setCell (p := ⟨w1.heap.size + 1, 0, none⟩) (by show _ ≤ w1.heap.size + 1; omega) _⟩
    · have hbad : ¬ (pre ++ [x]) <+: ge 4 [⟨3, ⟨#[98]⟩⟩, ⟨5, ⟨#[97]⟩⟩] := fun hp => by
        obtain rfl : pre = [] := List.eq_nil_of_length_eq_zero (by omega)
        have e : ge 4 [⟨3, ⟨#[98]⟩⟩, ⟨5, ⟨#[97]⟩⟩] = [⟨5, ⟨#[97]⟩⟩] := by simp [ge]
        rw [e, List.nil_append] at hp
        have := hp.eq_of_length (by simp)
        cases this
        exact hx ⟨rfl, rfl⟩
      have HB := hid hbad
      clear hbad
      by_cases h5 : x.k = 5
      · have ht : ¬ x.t = ⟨#[97]⟩ := fun e => hx ⟨h5, e⟩
        clear hx
        obtain ⟨xk, xt⟩ := x
        obtain rfl : xk = 5 := h5
        simp only at ht
        gi_wp2_with fail
        · exact ⟨KeepsOthers.setCell _ _ _, rfl, HB.out⟩
        · have hq := HW1.out
          exact ⟨KeepsOthers.setCell _ _ _, (Below.refl _ W).setCell (p := ⟨w1.heap.size + 1, 0, none⟩) (by show _ ≤ w1.heap.size + 1; omega) _, by have h := b0.set (.int .i64 ((pre.length : Int) + 1)); simpa using h, b1.other (by omega) _, b2.other (by have := lt_of_heap BRE.out; omega) _, b3.other (by omega) _, hb.setCell (p := ⟨w1.heap.size + 1, 0, none⟩) (by show _ ≤ w1.heap.size + 1; omega) _⟩
      · gi_wp2_with fail
        exact ⟨KeepsOthers.setCell _ _ _, rfl, HB.out⟩
  · rintro D xs W hD rfl ⟨b0, b1, b2, b3, hb⟩ hdef
    have l1 : (ge 4 [(⟨3, ⟨#[98]⟩⟩ : En), ⟨5, ⟨#[97]⟩⟩]).length = 1 := by simp [ge]
    rw [l1] at b0
    have c0 := b0.cell
    have HD := hid hdef
    have HDl := hid hD
    have HB := hid hb
    have B0 := hid b0
    have B1' := hid b1
    have B2' := hid b2
    have B3' := hid b3
    clear hdef hD hb
    gi_wp2_with fail
    refine ⟨trivial, (callsIn_wide.2 (treed_any W a c X (HX.out.below HB.out) hn hT)).mono ?_⟩
    rintro r w3 ⟨t, o, rfl, hT3, hS3, hD3, hb3⟩
    have TT := hid hT3
    have TX := hid hS3
    have BO : Hid (∀ q, o q ≠ none → W.heap.size ≤ q) := hD3
    have BO2 : Hid (∀ q, o q ≠ none → q < w3.heap.size) := hT3.lt
    have B4 : Hid (Below w.heap.size w w3) := below_tr HB.out hb3
    have x0 : Boxed w3 w1.heap.size 46 (.pointer (some ⟨t1, 0, none⟩)) := (hb3.block _ B3'.out.lt).trans B3'.out
    have x1 : Hid (Boxed w3 w.heap.size 3 (.int .i64 mo)) := (hb3.block _ B1'.out.lt).trans B1'.out
    have x2 : Hid (Boxed w3 (w.heap.size + 1) 4 (.bool false)) := (hb3.block _ B2'.out.lt).trans B2'.out
    have x3 : Hid (w3.heap[D]? = some (.deferred (some []))) := (hb3.block _ (lt_of_heap HD.out)).trans HD.out
    have HWl : Hid (W.heap.size ≤ w3.heap.size) := hb3.size
    have X0 := hid x0
    have d0 := x0.cell
    have f0 := x0.frozen
    have y0 := ((x0.set (.pointer (some ⟨t, 0, none⟩))).alloc (.cells #[.int .i64 fr] 3)).alloc (.cells #[.int .i64 0] 3)
    have d1 := y0.cell
    have Y0 := hid y0
    clear hT3 hS3 hD3 hb3 b0 b1 b2 b3 c0 hsq x0 y0
    gi_wp2_with fail
    refine ⟨trivial, (callsIn_wide.2 (from_any _ t fr)).mono ?_⟩
    rintro r w4 ⟨rfl, rfl⟩
    gi_wp2_with fail
    obtain ⟨W5, hW5⟩ : ∃ W5, W5 = (((((w3.setCell ⟨w1.heap.size, 0, none⟩ (.pointer (some ⟨t, 0, none⟩))).alloc (.cells #[.int .i64 fr] 3)).alloc (.cells #[.int .i64 0] 3)).alloc (.cells #[.pointer (some ⟨t, 0, none⟩)] 46)).alloc (.cells #[.int .i64 fr] 3)) := ⟨_, rfl⟩
    have hs5 : W5.heap.size = w3.heap.size + 4 := by rw [hW5]; simp
    have hss : (w3.setCell ⟨w1.heap.size, 0, none⟩ (.pointer (some ⟨t, 0, none⟩))).heap.size = w3.heap.size := by simp
    have z0 : Boxed W5 w3.heap.size 3 (.int .i64 fr) := by
      have h := (((Boxed.new (w3.setCell ⟨w1.heap.size, 0, none⟩ (.pointer (some ⟨t, 0, none⟩))) 3 (.int .i64 fr)).alloc (.cells #[.int .i64 0] 3)).alloc (.cells #[.pointer (some ⟨t, 0, none⟩)] 46)).alloc (.cells #[.int .i64 fr] 3)
      rw [hss] at h; rw [hW5]; exact h
    have z1 : Boxed W5 (w3.heap.size + 1) 3 (.int .i64 0) := by
      have h := ((Boxed.new ((w3.setCell ⟨w1.heap.size, 0, none⟩ (.pointer (some ⟨t, 0, none⟩))).alloc (.cells #[.int .i64 fr] 3)) 3 (.int .i64 0)).alloc (.cells #[.pointer (some ⟨t, 0, none⟩)] 46)).alloc (.cells #[.int .i64 fr] 3)
      rw [World.size_alloc, hss] at h; rw [hW5]; exact h
    have z2 : Boxed W5 (w3.heap.size + 1 + 1) 46 (.pointer (some ⟨t, 0, none⟩)) := by
      have h := (Boxed.new (((w3.setCell ⟨w1.heap.size, 0, none⟩ (.pointer (some ⟨t, 0, none⟩))).alloc (.cells #[.int .i64 fr] 3)).alloc (.cells #[.int .i64 0] 3)) 46 (.pointer (some ⟨t, 0, none⟩))).alloc (.cells #[.int .i64 fr] 3)
      rw [World.size_alloc, World.size_alloc, hss] at h; rw [hW5]; exact h
    have z3 : Boxed W5 (w3.heap.size + 1 + 1 + 1) 3 (.int .i64 fr) := by
      have h := Boxed.new ((((w3.setCell ⟨w1.heap.size, 0, none⟩ (.pointer (some ⟨t, 0, none⟩))).alloc (.cells #[.int .i64 fr] 3)).alloc (.cells #[.int .i64 0] 3)).alloc (.cells #[.pointer (some ⟨t, 0, none⟩)] 46)) 3 (.int .i64 fr)
      rw [World.size_alloc, World.size_alloc, World.size_alloc, hss] at h; rw [hW5]; exact h
    have hold : ∀ k, k < w3.heap.size → k ≠ w1.heap.size → W5.heap[k]? = w3.heap[k]? := fun k hk hn => by
      rw [hW5]
      exact (Below.heap_alloc _ _ _ (by simp; omega)).trans ((Below.heap_alloc _ _ _ (by simp; omega)).trans ((Below.heap_alloc _ _ _ (by simp; omega)).trans ((Below.heap_alloc _ _ _ (by simp; omega)).trans (Below.heap_setCell _ _ _ k hn))))
    have y3 : Boxed W5 w1.heap.size 46 (.pointer (some ⟨t, 0, none⟩)) := by
      rw [hW5]; exact (Y0.out.alloc _).alloc _
    have hw1 := B0.out.lt
    have hwl := HWl.out
    have y1 : Boxed W5 w.heap.size 3 (.int .i64 mo) := (hold _ x1.out.lt (by have := lt_of_heap BMO.out; omega)).trans x1.out
    have y2 : Boxed W5 (w.heap.size + 1) 4 (.bool false) := (hold _ x2.out.lt (by have := lt_of_heap BRE.out; omega)).trans x2.out
    have y4 : W5.heap[D]? = some (.deferred (some [])) := (hold _ (lt_of_heap x3.out) (by have := HDl.out; omega)).trans x3.out
    have T5 : TreeAt W5 t o (runK X) := TT.out.keep (fun k hk => hold k (BO2.out k hk) (by have := BO.out k hk; omega)) (by omega)
    have B5 : Hid (Below w.heap.size w W5) := by
      have h : Below w.heap.size w (w3.setCell ⟨w1.heap.size, 0, none⟩ (.pointer (some ⟨t, 0, none⟩))) := B4.out.setCell (p := ⟨w1.heap.size, 0, none⟩) HW1.out _
      show Below w.heap.size w W5
      rw [hW5]
      have hq := B4.out.size
      exact (((h.alloc (by simp; omega) _).alloc (by simp; omega) _).alloc (by simp; omega) _).alloc (by simp; omega) _
    rw [← hW5]
    have hsq := tree_seq 4 w3.heap.size fr W5 t o _ T5 BO2.out (by omega) TX.out (w3.heap.size + 1 + 1) (w3.heap.size + 1 + 1 + 1) z2.cell z3.cell
    have hTU := TreeAt.up T5
    have TT5 := hid T5
    have Y1 := hid y1
    have Y2 := hid y2
    have Y3 := hid y3
    have Y4 := hid y4
    have HOLD := hid hold
    have HTU := hid hTU
    have hq1 := Y1.out.lt
    have hq2 := Y2.out.lt
    have hq4 := lt_of_heap x3.out
    have hq5 := lt_of_heap X0.out
    have hq6 := lt_of_heap x2.out
    have hq7 := lt_of_heap x1.out
    generalize runK X = L at *
    clear hW5 hold y1 y2 y3 y4 T5 hTU d0 f0 d1 Y0 hss z2 z3 X0 x0 x1 x2 x3 TT B4 B0 B1' B2' B3' HB HD K1 HX KT HT1 B1 O1 BMO BRE W1a B2 B3
    have OW := OwnFrom.and (Own.from (boxed_own (w3.heap.size + 1) 3 (fun q : List En => .int .i64 ((q.length : Int) - 1))) W5.heap.size) (ownFrom_below (β := List En) (w₀ := W5) (n₀ := w3.heap.size) (B := W5.heap.size) (by omega) (by omega))
    apply wpIn_rangeFunc_ownF rfl (by omega) (gf := 39) (lb := #[.pointer (some ⟨w3.heap.size + 1 + 1, 0, none⟩), .pointer (some ⟨w3.heap.size + 1 + 1 + 1, 0, none⟩)]) rfl trivial (encs := fun x : En => #[.int .i64 x.k, .string x.t]) (Kp := Below w3.heap.size) (enters_of Try.func39 (by kernel_rfl) rfl) hsq belowK_t (belowK_b (n₀ := w3.heap.size) (w := W5) (by omega)) (Below.refl _ _) (fun (x : En) => rfl)
      (fun (q : List En) W6 => Boxed W6 w3.heap.size 3 (.int .i64 (lastK fr q)) ∧ Boxed W6 (w3.heap.size + 1) 3 (.int .i64 (q.length : Int)) ∧ Below w3.heap.size W5 W6)
      (fun co q W6 => (co = .ret ∧ ¬ q <+: ge fr L) ∨ (co = .exit 2 ∧ Boxed W6 (w3.heap.size + 1) 3 (.int .i64 ((q.length : Int) - 1)) ∧ Below w3.heap.size W5 W6))
      (OwnFrom.and (Own.from (boxed_own _ _ _) _) (OwnFrom.and (Own.from (boxed_own _ _ _) _) (ownFrom_below (by omega) (by omega))))
      (fun co s A B row hs hg hr => hs.imp id (fun h => ⟨h.1, OW s A B row h.2 hg hr⟩))
      ⟨z0, z1, Below.refl _ _⟩
    · intro l x W6 K hK
      gi_wp2
      exact hK
    · rintro l pre x W6 ⟨b0, b1, hb⟩ hlen
      have HBB := hid hb
      have v1 : Boxed W6 w.heap.size 3 (.int .i64 mo) := (hb.block _ hq7).trans Y1.out
      have v2 : Boxed W6 (w.heap.size + 1) 4 (.bool false) := (hb.block _ hq6).trans Y2.out
      have v3 : Boxed W6 w1.heap.size 46 (.pointer (some ⟨t, 0, none⟩)) := (hb.block _ hq5).trans Y3.out
      have T6 : TreeAt W6 t o L := TT5.out.keep (fun k hk => hb.block k (BO2.out k hk)) hb.size
      have KG := hid (get_any W6 t o L T6 x.k TX.out)
      have hsz6 := hb.size
      clear T6 hb
      have c0 := b0.cell
      have c1 := b1.cell
      have f0 := b0.frozen
      have f1 := b1.frozen
      have c2 := v1.cell
      have c3 := v2.cell
      have f3 := v2.frozen
      have c4 := v3.cell
      have BB0 := hid b0
      have BB1 := hid b1
      have hge := ge_le fr L
      have hl2 : (pre.length : Int) ≤ 2000 := by have := HTU.out.2; omega
      have hl3 : (0 : Int) ≤ (pre.length : Int) := by omega
      clear b0 b1 v1 v2 v3 hge
      obtain ⟨xk, xt⟩ := x
      by_cases hm : (pre.length : Int) = mo
      · have hm2 : ((pre.length : Int) == mo) = true := by simpa using hm
        gi_wp2_with fail
        exact ⟨KeepsOthers.refl _, .inr ⟨rfl, by simpa using BB1.out, HBB.out⟩⟩
      · have hm2 : ((pre.length : Int) == mo) = false := by simpa using hm
        have HM := hid hm
        clear hm
        obtain ⟨g, hg⟩ : ∃ g, g = getL L xk := ⟨_, rfl⟩
        rw [← hg] at KG
        have HG := hid hg
        clear hg
        have KO : ∀ w7, Below W6.heap.size W6 w7 → KeepsOthers W6 w7 := fun w7 h => KeepsOthers.of_grownBy (grown_of_below h) (fun j o e => by cases e)
        have HKO := hid KO
        clear KO
        cases g with
        | none =>
          have KG0 : Hid (Calls Try.prog 23 #[.pointer (some ⟨t, 0, none⟩), .int .i64 xk] W6 fun e w' => e = .returned (.tuple #[.string ⟨#[]⟩, .int .i64 6]) ∧ Below W6.heap.size W6 w') := KG.out
          clear KG
          gi_wp2_with fail
          refine ⟨trivial, (CallsIn.inRound l (callsIn_wide.2 KG0.out)).mono ?_⟩
          rintro r w7 ⟨rfl, hb7⟩
          have e3 : w7.cell? ⟨w.heap.size + 1, 0, none⟩ = some (.bool false) := (hb7.cell (p := ⟨w.heap.size + 1, 0, none⟩) (by show w.heap.size + 1 < _; omega)).trans c3
          have g3 : w7.frozen? ⟨w.heap.size + 1, 0, none⟩ = false := (hb7.frozen (p := ⟨w.heap.size + 1, 0, none⟩) (by show w.heap.size + 1 < _; omega)).trans f3
          have HB7 := hid hb7
          clear hb7
          gi_wp2_with fail
          refine ⟨(HKO.out _ HB7.out).trans (KeepsOthers.setCell _ _ _), .inl ⟨rfl, fun hp => ?_⟩⟩
          have hc := come HTU.out.1 hp
          have := getL_some HTU.out.1 hc.1 rfl
          have h2 := HG.out
          simp only at this
          rw [this] at h2
          cases h2
        | some u =>
          have KG0 : Hid (Calls Try.prog 23 #[.pointer (some ⟨t, 0, none⟩), .int .i64 xk] W6 fun e w' => e = .returned (.tuple #[.string u, .int .i64 0]) ∧ Below W6.heap.size W6 w') := KG.out
          clear KG
          have HC : Hid ((pre ++ [⟨xk, xt⟩]) <+: ge fr L → u = xt ∧ lastK fr pre ≤ xk ∧ (pre ≠ [] → lastK fr pre ≠ xk)) := fun hp => by
            have hc := come HTU.out.1 hp
            have := getL_some HTU.out.1 hc.1 rfl
            have h2 := HG.out
            simp only at this
            rw [this] at h2
            exact ⟨by injection h2, hc.2⟩
          obtain ⟨la, hla⟩ : ∃ la, la = lastK fr pre := ⟨_, rfl⟩
          rw [← hla] at HC c0 BB0
          have hen : Hid (pre ≠ [] ↔ 0 < pre.length) := by
            show _ ↔ _
            cases pre <;> simp
          clear hla
          by_cases hu : u = xt
          · subst hu
            by_cases hlt : xk < la
            · gi_wp2_with fail
              refine ⟨trivial, (CallsIn.inRound l (callsIn_wide.2 KG0.out)).mono ?_⟩
              rintro r w7 ⟨rfl, hb7⟩
              have e0 : w7.cell? ⟨w3.heap.size, 0, none⟩ = some (.int .i64 la) := (hb7.cell (p := ⟨w3.heap.size, 0, none⟩) (by show w3.heap.size < _; omega)).trans c0
              have e3 : w7.cell? ⟨w.heap.size + 1, 0, none⟩ = some (.bool false) := (hb7.cell (p := ⟨w.heap.size + 1, 0, none⟩) (by show w.heap.size + 1 < _; omega)).trans c3
              have g3 : w7.frozen? ⟨w.heap.size + 1, 0, none⟩ = false := (hb7.frozen (p := ⟨w.heap.size + 1, 0, none⟩) (by show w.heap.size + 1 < _; omega)).trans f3
              have HB7 := hid hb7
              clear hb7
              gi_wp2_with fail
              exact ⟨(HKO.out _ HB7.out).trans (KeepsOthers.setCell _ _ _), .inl ⟨rfl, fun hp => by have := (HC.out hp).2.1; omega⟩⟩
            · by_cases hpe : pre.length = 0
              · have hp0 : decide ((0 : Int) < (pre.length : Int)) = false := by simp [hpe]
                gi_wp2_with fail
                refine ⟨trivial, (CallsIn.inRound l (callsIn_wide.2 KG0.out)).mono ?_⟩
                rintro r w7 ⟨rfl, hb7⟩
                have e0 : w7.cell? ⟨w3.heap.size, 0, none⟩ = some (.int .i64 la) := (hb7.cell (p := ⟨w3.heap.size, 0, none⟩) (by show w3.heap.size < _; omega)).trans c0
                have e1 : w7.cell? ⟨w3.heap.size + 1, 0, none⟩ = some (.int .i64 (pre.length : Int)) := (hb7.cell (p := ⟨w3.heap.size + 1, 0, none⟩) (by show w3.heap.size + 1 < _; omega)).trans c1
                have g0 : w7.frozen? ⟨w3.heap.size, 0, none⟩ = false := (hb7.frozen (p := ⟨w3.heap.size, 0, none⟩) (by show w3.heap.size < _; omega)).trans f0
                have g1 : w7.frozen? ⟨w3.heap.size + 1, 0, none⟩ = false := (hb7.frozen (p := ⟨w3.heap.size + 1, 0, none⟩) (by show w3.heap.size + 1 < _; omega)).trans f1
                have HB7 := hid hb7
                clear hb7
                gi_wp2_with fail
                have D0 : Boxed w7 w3.heap.size 3 (.int .i64 la) := (HB7.out.block _ BB0.out.lt).trans BB0.out
                have D1 : Boxed w7 (w3.heap.size + 1) 3 (.int .i64 (pre.length : Int)) := (HB7.out.block _ BB1.out.lt).trans BB1.out
                have DB : Below w3.heap.size W6 w7 := HB7.out.mono (by omega)
                have hln : ((pre ++ [(⟨xk, u⟩ : En)]).length : Int) = 1 := by simp [hpe]
                have DB2 := fun v v2 => (DB.setCell (p := ⟨w3.heap.size, 0, none⟩) (Nat.le_refl _) v).setCell (p := ⟨w3.heap.size + 1, 0, none⟩) (by show _ ≤ w3.heap.size + 1; omega) v2
                exact ⟨((HKO.out _ HB7.out).trans (KeepsOthers.setCell _ _ _)).trans (KeepsOthers.setCell _ _ _), DB2 _ _, by rw [lastK_snoc]; exact (D0.set (.int .i64 xk)).other (by omega) _, by rw [hln]; exact (D1.other (by omega) _).set _, HBB.out.trans (DB2 _ _)⟩
              · have hp0 : decide ((0 : Int) < (pre.length : Int)) = true := by simp; omega
                by_cases hk : xk = la
                · have hk2 : (xk == la) = true := by simpa using hk
                  have HK := hid hk
                  clear hk
                  gi_wp2_with fail
                  refine ⟨trivial, (CallsIn.inRound l (callsIn_wide.2 KG0.out)).mono ?_⟩
                  rintro r w7 ⟨rfl, hb7⟩
                  have e0 : w7.cell? ⟨w3.heap.size, 0, none⟩ = some (.int .i64 la) := (hb7.cell (p := ⟨w3.heap.size, 0, none⟩) (by show w3.heap.size < _; omega)).trans c0
                  have e1 : w7.cell? ⟨w3.heap.size + 1, 0, none⟩ = some (.int .i64 (pre.length : Int)) := (hb7.cell (p := ⟨w3.heap.size + 1, 0, none⟩) (by show w3.heap.size + 1 < _; omega)).trans c1
                  have g0 : w7.frozen? ⟨w3.heap.size, 0, none⟩ = false := (hb7.frozen (p := ⟨w3.heap.size, 0, none⟩) (by show w3.heap.size < _; omega)).trans f0
                  have g1 : w7.frozen? ⟨w3.heap.size + 1, 0, none⟩ = false := (hb7.frozen (p := ⟨w3.heap.size + 1, 0, none⟩) (by show w3.heap.size + 1 < _; omega)).trans f1
                  have e3 : w7.cell? ⟨w.heap.size + 1, 0, none⟩ = some (.bool false) := (hb7.cell (p := ⟨w.heap.size + 1, 0, none⟩) (by show w.heap.size + 1 < _; omega)).trans c3
                  have g3 : w7.frozen? ⟨w.heap.size + 1, 0, none⟩ = false := (hb7.frozen (p := ⟨w.heap.size + 1, 0, none⟩) (by show w.heap.size + 1 < _; omega)).trans f3
                  have HB7 := hid hb7
                  clear hb7
                  gi_wp2_with fail
                  exact ⟨(HKO.out _ HB7.out).trans (KeepsOthers.setCell _ _ _), .inl ⟨rfl, fun hp => (HC.out hp).2.2 (hen.out.2 (by omega)) HK.out.symm⟩⟩
                · have hk2 : (xk == la) = false := by simpa using hk
                  gi_wp2_with fail
                  refine ⟨trivial, (CallsIn.inRound l (callsIn_wide.2 KG0.out)).mono ?_⟩
                  rintro r w7 ⟨rfl, hb7⟩
                  have e0 : w7.cell? ⟨w3.heap.size, 0, none⟩ = some (.int .i64 la) := (hb7.cell (p := ⟨w3.heap.size, 0, none⟩) (by show w3.heap.size < _; omega)).trans c0
                  have e1 : w7.cell? ⟨w3.heap.size + 1, 0, none⟩ = some (.int .i64 (pre.length : Int)) := (hb7.cell (p := ⟨w3.heap.size + 1, 0, none⟩) (by show w3.heap.size + 1 < _; omega)).trans c1
                  have g0 : w7.frozen? ⟨w3.heap.size, 0, none⟩ = false := (hb7.frozen (p := ⟨w3.heap.size, 0, none⟩) (by show w3.heap.size < _; omega)).trans f0
                  have g1 : w7.frozen? ⟨w3.heap.size + 1, 0, none⟩ = false := (hb7.frozen (p := ⟨w3.heap.size + 1, 0, none⟩) (by show w3.heap.size + 1 < _; omega)).trans f1
                  have e3 : w7.cell? ⟨w.heap.size + 1, 0, none⟩ = some (.bool false) := (hb7.cell (p := ⟨w.heap.size + 1, 0, none⟩) (by show w.heap.size + 1 < _; omega)).trans c3
                  have g3 : w7.frozen? ⟨w.heap.size + 1, 0, none⟩ = false := (hb7.frozen (p := ⟨w.heap.size + 1, 0, none⟩) (by show w.heap.size + 1 < _; omega)).trans f3
                  have HB7 := hid hb7
                  clear hb7
                  gi_wp2_with fail
                  have D0 : Boxed w7 w3.heap.size 3 (.int .i64 la) := (HB7.out.block _ BB0.out.lt).trans BB0.out
                  have D1 : Boxed w7 (w3.heap.size + 1) 3 (.int .i64 (pre.length : Int)) := (HB7.out.block _ BB1.out.lt).trans BB1.out
                  have DB : Below w3.heap.size W6 w7 := HB7.out.mono (by omega)
                  have hln : ((pre ++ [(⟨xk, u⟩ : En)]).length : Int) = (pre.length : Int) + 1 := by simp
                  have DB2 := fun v v2 => (DB.setCell (p := ⟨w3.heap.size, 0, none⟩) (Nat.le_refl _) v).setCell (p := ⟨w3.heap.size + 1, 0, none⟩) (by show _ ≤ w3.heap.size + 1; omega) v2
                  exact ⟨((HKO.out _ HB7.out).trans (KeepsOthers.setCell _ _ _)).trans (KeepsOthers.setCell _ _ _), DB2 _ _, by rw [lastK_snoc]; exact (D0.set (.int .i64 xk)).other (by omega) _, by rw [hln]; exact (D1.other (by omega) _).set _, HBB.out.trans (DB2 _ _)⟩
          · have hu2 := lists_other hu
            gi_wp2_with fail
            refine ⟨trivial, (CallsIn.inRound l (callsIn_wide.2 KG0.out)).mono ?_⟩
            rintro r w7 ⟨rfl, hb7⟩
            have e3 : w7.cell? ⟨w.heap.size + 1, 0, none⟩ = some (.bool false) := (hb7.cell (p := ⟨w.heap.size + 1, 0, none⟩) (by show w.heap.size + 1 < _; omega)).trans c3
            have g3 : w7.frozen? ⟨w.heap.size + 1, 0, none⟩ = false := (hb7.frozen (p := ⟨w.heap.size + 1, 0, none⟩) (by show w.heap.size + 1 < _; omega)).trans f3
            have HB7 := hid hb7
            clear hb7
            gi_wp2_with fail
            exact ⟨(HKO.out _ HB7.out).trans (KeepsOthers.setCell _ _ _), .inl ⟨rfl, fun hp => absurd (HC.out hp).1 hu⟩⟩
    · rintro D2 xs W6 hD2 rfl ⟨b0, b1, hb⟩ hdef
      have hN1 := ge_le fr L
      have hN2 := HTU.out.2
      have hN3 : ((ge fr L).length : Int) ≤ (L.length : Int) := by omega
      have hN4 : (L.length : Int) ≤ 2000 := by omega
      have v2 : Boxed W6 (w.heap.size + 1) 4 (.bool false) := (hb.block _ hq6).trans Y2.out
      have v3 : Boxed W6 w1.heap.size 46 (.pointer (some ⟨t, 0, none⟩)) := (hb.block _ hq5).trans Y3.out
      have v4 : W6.heap[D]? = some (.deferred (some [])) := (hb.block _ hq4).trans Y4.out
      have T6 : TreeAt W6 t o L := TT5.out.keep (fun k hk => hb.block k (BO2.out k hk)) hb.size
      have KL := hid fun W1 (hb1 : Below W6.heap.size W6 W1) => (callsIn_wide (n := 4)).2 (len_any W1 t o L (T6.below hb1))
      have c1 := b1.cell
      have c3 := v2.cell
      have f3 := v2.frozen
      have c4 := v3.cell
      have V2 := hid v2
      have V4 := hid v4
      have HD2 := hid hdef
      have HBB := hid hb
      clear v2 v3 v4 T6 hb hdef b1
      generalize ((ge fr L).length : Int) = N at *
      generalize (L.length : Int) = M at *
      clear hsq OW z0 z1 b0 hN1 hN2
      have hmx : Try.prog.follows Departure.mixedOrders = true := by kernel_rfl
      gi_wp2_with fail
      refine no_panic ?_
      gi_region_with_o (refine ⟨trivial, ?_⟩; refine (KL.out _ (TE.drew_below (Below.refl _ _))).mono ?_; rintro e w8 ⟨rfl, rfl⟩)
      all_goals gi_wp2_with fail
      all_goals (
        have q1 := lt_of_heap V4.out
        have q2 := HDl.out
        have q3 := HW1.out
        have k2 : (W6.setCell ⟨w.heap.size + 1, 0, none⟩ (.bool true)).drew.heap[D2]? = some (.deferred (some [])) := (KeepsOthers.setCell _ _ _).same D2 _ HD2.out rfl
        have k1 : ((W6.setCell ⟨w.heap.size + 1, 0, none⟩ (.bool true)).drew.putObj D2 (.deferred none)).heap[D]? = some (.deferred (some [])) := (grownBy_putObj' _ D2 (.deferred none)).block D (by simp; omega) (by simp; omega) |>.trans ((KeepsOthers.setCell _ _ _).same D _ V4.out rfl)
        have B6 : Below w.heap.size w (((W6.setCell ⟨w.heap.size + 1, 0, none⟩ (.bool true)).drew.putObj D2 (.deferred none)).putObj D (.deferred none)) := by
          have h : Below w.heap.size w (W6.setCell ⟨w.heap.size + 1, 0, none⟩ (.bool true)).drew := ((B5.out.trans (HBB.out.mono (by omega))).setCell (p := ⟨w.heap.size + 1, 0, none⟩) (by show _ ≤ w.heap.size + 1; omega) _).drew
          exact (h.trans (belowK_b (w := w) (Nat.le_refl _) _ D2 _ _ (by omega) k2 rfl rfl)).trans (belowK_b (w := w) (Nat.le_refl _) _ D _ _ (by omega) k1 rfl rfl)
        have r6 : (((W6.setCell ⟨w.heap.size + 1, 0, none⟩ (.bool true)).drew.putObj D2 (.deferred none)).putObj D (.deferred none)).cell? ⟨w.heap.size + 1, 0, none⟩ = some (.bool true) := by
          have h : Boxed (W6.setCell ⟨w.heap.size + 1, 0, none⟩ (.bool true)).drew (w.heap.size + 1) 4 (.bool true) := V2.out.set (.bool true)
          exact ((h.kept (grownBy_putObj' _ D2 (.deferred none)) (by simp; omega)).kept (grownBy_putObj' _ D (.deferred none)) (by simp; omega)).cell
        refine ⟨by simp, .inl ⟨_, _, rfl, run_takeDeferred k2, ?_⟩⟩
        refine ⟨by simp, .inl ⟨_, _, rfl, run_takeDeferred k1, ?_⟩⟩
        exact ⟨.bool true, by simp [results, Try.results6, go_sem, r6], rfl, B6⟩)
    · rintro D2 co pre W6 hD2 hsp hix hdef
      rcases hix with ⟨rfl, hn⟩ | ⟨rfl, b1, hb⟩
      · exact absurd hsp hn
      have hN0 := hsp.length_le
      have hN1 := ge_le fr L
      have hN2 := HTU.out.2
      have hN3 : ((pre.length : Int) - 1) ≤ (L.length : Int) := by omega
      have hN4 : (L.length : Int) ≤ 2000 := by omega
      have v2 : Boxed W6 (w.heap.size + 1) 4 (.bool false) := (hb.block _ hq6).trans Y2.out
      have v3 : Boxed W6 w1.heap.size 46 (.pointer (some ⟨t, 0, none⟩)) := (hb.block _ hq5).trans Y3.out
      have v4 : W6.heap[D]? = some (.deferred (some [])) := (hb.block _ hq4).trans Y4.out
      have T6 : TreeAt W6 t o L := TT5.out.keep (fun k hk => hb.block k (BO2.out k hk)) hb.size
      have KL := hid fun W1 (hb1 : Below W6.heap.size W6 W1) => (callsIn_wide (n := 4)).2 (len_any W1 t o L (T6.below hb1))
      have c1 := b1.cell
      have c3 := v2.cell
      have f3 := v2.frozen
      have c4 := v3.cell
      have V2 := hid v2
      have V4 := hid v4
      have HD2 := hid hdef
      have HBB := hid hb
      clear v2 v3 v4 T6 hb hdef b1
      generalize ((pre.length : Int) - 1) = N at *
      generalize (L.length : Int) = M at *
      clear hsq OW z0 z1 hsp hN0 hN1 hN2
      have hmx : Try.prog.follows Departure.mixedOrders = true := by kernel_rfl
      gi_wp2_with fail
      refine no_panic ?_
      gi_region_with_o (refine ⟨trivial, ?_⟩; refine (KL.out _ (TE.drew_below (Below.refl _ _))).mono ?_; rintro e w8 ⟨rfl, rfl⟩)
      all_goals gi_wp2_with fail
      all_goals (
        have q1 := lt_of_heap V4.out
        have q2 := HDl.out
        have q3 := HW1.out
        have k2 : (W6.setCell ⟨w.heap.size + 1, 0, none⟩ (.bool true)).drew.heap[D2]? = some (.deferred (some [])) := (KeepsOthers.setCell _ _ _).same D2 _ HD2.out rfl
        have k1 : ((W6.setCell ⟨w.heap.size + 1, 0, none⟩ (.bool true)).drew.putObj D2 (.deferred none)).heap[D]? = some (.deferred (some [])) := (grownBy_putObj' _ D2 (.deferred none)).block D (by simp; omega) (by simp; omega) |>.trans ((KeepsOthers.setCell _ _ _).same D _ V4.out rfl)
        have B6 : Below w.heap.size w (((W6.setCell ⟨w.heap.size + 1, 0, none⟩ (.bool true)).drew.putObj D2 (.deferred none)).putObj D (.deferred none)) := by
          have h : Below w.heap.size w (W6.setCell ⟨w.heap.size + 1, 0, none⟩ (.bool true)).drew := ((B5.out.trans (HBB.out.mono (by omega))).setCell (p := ⟨w.heap.size + 1, 0, none⟩) (by show _ ≤ w.heap.size + 1; omega) _).drew
          exact (h.trans (belowK_b (w := w) (Nat.le_refl _) _ D2 _ _ (by omega) k2 rfl rfl)).trans (belowK_b (w := w) (Nat.le_refl _) _ D _ _ (by omega) k1 rfl rfl)
        have r6 : (((W6.setCell ⟨w.heap.size + 1, 0, none⟩ (.bool true)).drew.putObj D2 (.deferred none)).putObj D (.deferred none)).cell? ⟨w.heap.size + 1, 0, none⟩ = some (.bool true) := by
          have h : Boxed (W6.setCell ⟨w.heap.size + 1, 0, none⟩ (.bool true)).drew (w.heap.size + 1) 4 (.bool true) := V2.out.set (.bool true)
          exact ((h.kept (grownBy_putObj' _ D2 (.deferred none)) (by simp; omega)).kept (grownBy_putObj' _ D (.deferred none)) (by simp; omega)).cell
        refine ⟨by simp, .inl ⟨_, _, rfl, run_takeDeferred k2, ?_⟩⟩
        refine ⟨by simp, .inl ⟨_, _, rfl, run_takeDeferred k1, ?_⟩⟩
        exact ⟨.bool true, by simp [results, Try.results6, go_sem, r6], rfl, B6⟩)
  · rintro D co pre W hD hsp ⟨rfl, hn⟩
    exact absurd hsp hn
end Go.Proofs.Ytlefcjgemojhpah.PTree
