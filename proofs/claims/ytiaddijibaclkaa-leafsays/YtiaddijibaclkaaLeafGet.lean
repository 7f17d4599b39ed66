/- leaf.Get, walked: each answers what the plain functions say, and nothing that was there has turned. Conditions: how many slots there are, how long their texts are. -/
import Derived.Test.YtiaddijibaclkaaLeafCopy
namespace Go.Proofs.Ytiaddijibaclkaa.PLeaf
open Go Go.RowKit
set_option maxRecDepth 100000

set_option maxHeartbeats 2000000 in
theorem get_any (w : World) (a : Option Addr) (c : Nat) (X : List Lf.Sl) (k : Int) (h : PgIn w a X) :
    Calls Try.prog 50 #[.agg #[.slice a X.length c], .int .i64 k] w fun e w' => e = .returned (.tuple #[.string (Lf.get X k).1, .int .i64 ((Lf.get X k).2 : Int)]) ∧ Below w.heap.size w w' := by
  have hl := h.len
  have K1 := hid fun W (hW : PgIn W a X) => check_any W a c X hW.at_ (by omega) hW.txs
  have H := hid h
  by_cases hc : Lf.check X = 0
  · have HG : Lf.get X k = if Lf.hit X k then (Lf.textAt X k.toNat, 0) else (Lf.nob, 6) := by unfold Lf.get; rw [if_pos hc]
    rw [hc] at K1
    generalize Lf.get X k = G at *
    clear h hc
    have hl' : (X.length : Int) ≤ 5864062014806 := by omega
    by_cases hk0 : k < 0
    · have e : Lf.hit X k = false := by unfold Lf.hit; simp; omega
      rw [e, if_neg (by simp)] at HG
      have HG' := hid HG
      clear HG e
      go_enter Try.func50, Try.ntmps50
      go_wp2_with fail
      refine (K1.out _ (H.out.below (bx _ _))).mono ?_
      rintro r w1 ⟨rfl, hb⟩
      have P0 := box1 hb
      have B1 := hid (below_tr (bx _ _) hb)
      clear hb K1
      go_wp2_with fail
      go_ret2
      exact ⟨by rw [HG'.out]; rfl, B1.out⟩
    · by_cases hk1 : (X.length : Int) ≤ k
      · have e : Lf.hit X k = false := by unfold Lf.hit; rw [List.getElem?_eq_none (by omega)]; simp
        rw [e, if_neg (by simp)] at HG
        have HG' := hid HG
        clear HG e
        go_enter Try.func50, Try.ntmps50
        go_wp2_with fail
        refine (K1.out _ (H.out.below (bx _ _))).mono ?_
        rintro r w1 ⟨rfl, hb⟩
        have P0 := box1 hb
        have B1 := hid (below_tr (bx _ _) hb)
        clear hb K1
        go_wp2_with fail
        go_ret2
        exact ⟨by rw [HG'.out]; rfl, B1.out⟩
      · obtain ⟨n, rfl⟩ := Int.eq_ofNat_of_zero_le (show 0 ≤ k by omega)
        have hn : n < X.length := by omega
        obtain ⟨x, hx⟩ : ∃ x, X[n]? = some x := ⟨_, List.getElem?_eq_getElem hn⟩
        rw [Lf.hit_at hx, Int.toNat_natCast, Lf.textAt_at hx] at HG
        have hxt := H.out.txs x (List.mem_of_getElem? hx)
        have KC := hid fun W => clone_any x.text W hxt
        have HX := hid fun W (hW : PgIn W a X) => hW.at_ n x hx
        have k0 : (0 : Int) ≤ (n : Int) := by omega
        have k1 : (n : Int) < (X.length : Int) := by omega
        have k2 : ¬ (X.length : Int) ≤ (n : Int) := by omega
        clear hx hxt
        obtain ⟨u, t⟩ := x
        simp only at HG HX KC
        cases u with
        | false =>
          rw [if_neg (by simp)] at HG
          have HG' := hid HG
          clear HG KC hk0 hk1
          go_enter Try.func50, Try.ntmps50
          go_wp2_with fail
          refine (K1.out _ (H.out.below (bx _ _))).mono ?_
          rintro r w1 ⟨rfl, hb⟩
          have P0 := box1 hb
          have B1 := hid (below_tr (bx _ _) hb)
          obtain ⟨b, o, rfl, d1, d2⟩ := HX.out _ (H.out.below B1.out)
          clear hb K1
          go_wp2_with fail
          go_ret2
          exact ⟨by rw [HG'.out]; rfl, B1.out⟩
        | true =>
          rw [if_pos rfl] at HG
          have HG' := hid HG
          clear HG hk0 hk1
          go_enter Try.func50, Try.ntmps50
          go_wp2_with fail
          refine (K1.out _ (H.out.below (bx _ _))).mono ?_
          rintro r w1 ⟨rfl, hb⟩
          have P0 := box1 hb
          have B1 := hid (below_tr (bx _ _) hb)
          obtain ⟨b, o, rfl, d1, d2⟩ := HX.out _ (H.out.below B1.out)
          clear hb K1
          go_wp2_with fail
          refine (KC.out _).mono ?_
          rintro r w2 ⟨rfl, hb2⟩
          have B2 := hid (below_tr B1.out hb2)
          clear hb2
          go_wp2_with fail
          go_ret2
          exact ⟨by rw [HG'.out]; rfl, B2.out⟩
  · have HF : Hid (Lf.get X k = (Lf.nob, Lf.check X)) := by show _ = _; unfold Lf.get; rw [if_neg hc]
    have hcl := Lf.check_le X
    generalize Lf.get X k = F at *
    generalize Lf.check X = C at *
    have hne : ((C : Int) != 0) = true := by simp; omega
    clear h hl
    go_enter Try.func50, Try.ntmps50
    go_wp2_with fail
    refine (K1.out _ (H.out.below (bx _ _))).mono ?_
    rintro r w1 ⟨rfl, hb⟩
    have B1 := hid (below_tr (bx _ _) hb)
    clear hb K1
    go_wp2_with fail
    go_ret2
    exact ⟨by rw [HF.out]; rfl, B1.out⟩

end Go.Proofs.Ytiaddijibaclkaa.PLeaf
