/- quirref.LeafErr, walked: the document's own answer is what the plain function says. Conditions: how many slots there are, how long the texts are. -/
import Derived.Test.YtiaddijibaclkaaLeafRefText
namespace Go.Proofs.Ytiaddijibaclkaa.PLeaf
open Go Go.RowKit
set_option maxRecDepth 100000

set_option maxHeartbeats 2000000 in
theorem refErr_any (w : World) (a : Option Addr) (c : Nat) (X : List Lf.Sl) (h : PgIn w a X) :
    Calls Try.prog 47 #[.agg #[.slice a X.length c]] w fun e w' => e = .returned (.int .i64 (Lf.check X : Int)) ∧ Below w.heap.size w w' := by
  have hl := h.len
  by_cases h40 : 40 < X.length
  · have hc : Lf.check X = 2 := by unfold Lf.check; rw [if_pos h40]
    rw [hc]
    have j1 : decide ((40 : Int) < (X.length : Int)) = true := by simp; omega
    have j2 : (40 : Int) < (X.length : Int) := by omega
    clear h hc
    go_enter Try.func47, Try.ntmps47
    go_wp2_with fail
    go_ret
    exact ⟨rfl, bx _ _⟩
  · have hn40 : X.length ≤ 40 := by omega
    have j1 : decide ((40 : Int) < (X.length : Int)) = false := by simp; omega
    have j2 : ¬ (40 : Int) < (X.length : Int) := by omega
    have H := hid h
    obtain ⟨Y, hY⟩ : ∃ Y, Y = Lf.check X := ⟨_, rfl⟩
    rw [← hY]
    have HY := hid hY
    have KT := hid fun W (hW : PgIn W a X) (ho : Lf.odd X = false) => refText_any W a c X hW.at_ (by omega) hW.txs ho
    clear h hY h40 hl
    go_enter Try.func47, Try.ntmps47
    go_wp2_with fail
    go_loopw [12] (fun i wr => ∃ k : Nat, k ≤ X.length ∧ i = .int .i64 (k : Int) ∧ Hid (∀ j x, j < k → X[j]? = some x → Lf.odd1 x = false ∧ (j = X.length - 1 → x.used = true)) ∧ Hid (Below (w.alloc (.cells #[.slice a X.length c] 73)).heap.size (w.alloc (.cells #[.slice a X.length c] 73)) wr)) (fun i _ => X.length - (intOf i).toNat)
    case atStart => exact ⟨0, Nat.zero_le _, rfl, fun j x hj => by omega, Below.refl _ _⟩
    case round =>
      obtain ⟨k, hk, rfl, hO, hb⟩ := hrel
      by_cases hlt : k < X.length
      · obtain ⟨x, hx⟩ : ∃ x, X[k]? = some x := ⟨_, List.getElem?_eq_getElem hlt⟩
        obtain ⟨b, o, rfl, d1, d2⟩ := (H.out.below (below_tr (bx _ _) hb.out)).at_ k x hx
        have k0 : (0 : Int) ≤ (k : Int) := by omega
        have k1 : (k : Int) < (X.length : Int) := by omega
        have HX := hid hx
        clear hx
        obtain ⟨u, t⟩ := x
        simp only at d1 d2
        cases u with
        | true =>
          have NO : Hid (∀ j x, j < k + 1 → X[j]? = some x → Lf.odd1 x = false ∧ (j = X.length - 1 → x.used = true)) := fun j x hj hx => by
            by_cases e : j = k
            · subst e
              rw [HX.out] at hx
              cases hx
              exact ⟨rfl, fun _ => rfl⟩
            · exact hO.out j x (by omega) hx
          clear hO HX
          go_wp2_with fail
          go_roundw
          case rel => exact ⟨k + 1, by omega, by go_num, NO, hid (below_tr hb.out (bx _ _))⟩
          case measure => simp [intOf]; omega
        | false =>
          by_cases hz : t.size = 0
          · have ht0 := Lf.size_nil hz
            subst ht0
            unfold Lf.nob at d2
            have P0 : (wr.alloc (.cells #[.bool false, .string ⟨#[]⟩] 90)).cell? ⟨w.heap.size, 0, none⟩ = some (.slice (some ⟨b, o, none⟩) X.length c) := box1 (below_tr hb.out (bx _ _))
            by_cases hlast : k = X.length - 1
            · have q1 : ((k : Int) == (X.length : Int) - 1) = true := by simp; omega
              have HY4 : Hid (Y = 4) := by
                show _ = _
                rw [HY.out]
                refine check_ends hn40 ?_
                have := HX.out
                rw [hlast] at this
                rw [Lf.ends_at this]
                rfl
              clear hO HX hz hlast
              go_wp2_with fail
              go_ret
              exact ⟨by rw [HY4.out]; rfl, below_tr (bx _ _) (below_tr hb.out (bx _ _))⟩
            · have q1 : ((k : Int) == (X.length : Int) - 1) = false := by simp; omega
              have NO : Hid (∀ j x, j < k + 1 → X[j]? = some x → Lf.odd1 x = false ∧ (j = X.length - 1 → x.used = true)) := fun j x hj hx => by
                by_cases e : j = k
                · subst e
                  rw [HX.out] at hx
                  cases hx
                  exact ⟨rfl, fun e => absurd e hlast⟩
                · exact hO.out j x (by omega) hx
              clear hO HX hz hlast
              go_wp2_with fail
              go_roundw
              case rel => exact ⟨k + 1, by omega, by go_num, NO, hid (below_tr hb.out (bx _ _))⟩
              case measure => simp [intOf]; omega
          · have hne := text_some hz
            have HY4 : Hid (Y = 4) := by
              show _ = _
              rw [HY.out]
              refine check_odd hn40 ?_
              unfold Lf.odd
              rw [List.any_eq_true]
              exact ⟨_, List.mem_of_getElem? HX.out, by unfold Lf.odd1; simp [hz]⟩
            clear hO HX hz
            go_wp2_with fail
            go_ret
            exact ⟨by rw [HY4.out]; rfl, below_tr (bx _ _) (below_tr hb.out (bx _ _))⟩
      · obtain rfl : k = X.length := by omega
        have j3 : decide ((X.length : Int) < (X.length : Int)) = false := by simp
        have hodd : Lf.odd X = false := Lf.odd_false.2 fun x hx => by
          obtain ⟨j, hj, rfl⟩ := List.mem_iff_getElem.1 hx
          exact (hO.out j _ hj (List.getElem?_eq_getElem hj)).1
        have hends : Lf.ends X = false := Lf.ends_false fun x hx => (hO.out (X.length - 1) x (by have := (List.getElem?_eq_some_iff.1 hx).1; omega) hx).2 rfl
        have P0 := box1 hb.out
        have K1 := hid (KT.out wr (H.out.below (below_tr (bx _ _) hb.out)) hodd)
        have HYs := hid (HY.out.trans (check_size hn40 hodd hends))
        have hsz : (Lf.mk (Lf.bytes X)).size = Lf.size X := by rw [Lf.mk_len]; rfl
        rw [← hsz] at HYs
        generalize Lf.mk (Lf.bytes X) = Z at *
        clear hO hodd hends KT hsz HY
        by_cases hz : 512 < Z.size
        · have hz' : (512 : Int) < (Z.size : Int) := by omega
          have HY8 : Hid (Y = 8) := by show _ = _; rw [HYs.out, if_pos hz]
          clear HYs
          go_wp2_with fail
          refine K1.out.mono ?_
          rintro r w3 ⟨rfl, hb3⟩
          have B3 := hid hb3
          clear hb3
          go_wp2_with fail
          go_ret
          exact ⟨by rw [HY8.out]; rfl, below_tr (bx _ _) (below_tr hb.out B3.out)⟩
        · have hz' : ¬ (512 : Int) < (Z.size : Int) := by omega
          have HY8 : Hid (Y = 0) := by show _ = _; rw [HYs.out, if_neg hz]
          clear HYs
          go_wp2_with fail
          refine K1.out.mono ?_
          rintro r w3 ⟨rfl, hb3⟩
          have B3 := hid hb3
          clear hb3
          go_wp2_with fail
          go_ret
          exact ⟨by rw [HY8.out]; rfl, below_tr (bx _ _) (below_tr hb.out B3.out)⟩

end Go.Proofs.Ytiaddijibaclkaa.PLeaf
