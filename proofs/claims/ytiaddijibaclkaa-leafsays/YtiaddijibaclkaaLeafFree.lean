/- leaf.Free, walked: it answers what the plain functions say, and nothing that was there has turned. Conditions: how many slots there are, how long their texts are. -/
import Derived.Test.YtiaddijibaclkaaLeafGet
namespace Go.Proofs.Ytiaddijibaclkaa.PLeaf
open Go Go.RowKit
set_option maxRecDepth 100000

def Lf.free (X : List Lf.Sl) : Nat := if Lf.check X = 0 then 512 - Lf.size X else 0

theorem free_any (w : World) (a : Option Addr) (c : Nat) (X : List Lf.Sl) (h : PgIn w a X) :
    Calls Try.prog 48 #[.agg #[.slice a X.length c]] w fun e w' => e = .returned (.tuple #[.int .i64 (Lf.free X : Int), .int .i64 (Lf.check X : Int)]) ∧ Below w.heap.size w w' := by
  have hl := h.len
  have K1 := hid fun W (hW : PgIn W a X) => check_any W a c X hW.at_ (by omega) hW.txs
  have H := hid h
  by_cases hc : Lf.check X = 0
  · obtain ⟨h1, h2, h3, h4⟩ := Lf.check_ok hc
    have K2 := hid fun W (hW : PgIn W a X) => size_any W a c X hW.at_ h1 hW.txs
    have HF : Hid (Lf.free X = 512 - Lf.size X) := by show _ = _; unfold Lf.free; rw [if_pos hc]
    rw [hc] at K1 ⊢
    have hs : (Lf.size X : Int) ≤ 512 := by omega
    have h4' : Lf.size X ≤ 512 := h4
    clear h hl h1 h2 h3 h4 hc
    generalize Lf.free X = F at *
    generalize Lf.size X = S at *
    go_enter Try.func48, Try.ntmps48
    go_wp2_with fail
    refine (K1.out _ (H.out.below (bx _ _))).mono ?_
    rintro r w1 ⟨rfl, hb⟩
    have P0 := box1 hb
    have B1 := hid (below_tr (bx _ _) hb)
    clear hb K1
    go_wp2_with fail
    refine (K2.out _ (H.out.below B1.out)).mono ?_
    rintro r w2 ⟨rfl, hb2⟩
    have B2 := hid (below_tr B1.out hb2)
    clear hb2 P0 B1 K2
    go_wp2_with fail
    go_ret2
    refine ⟨?_, B2.out⟩
    rw [HF.out, show ((512 - S : Nat) : Int) = 512 - (S : Int) by omega]
    rfl
  · have HF : Hid (Lf.free X = 0) := by show _ = _; unfold Lf.free; rw [if_neg hc]
    have hcl := Lf.check_le X
    generalize Lf.free X = F at *
    generalize Lf.check X = C at *
    have hne : ((C : Int) != 0) = true := by simp; omega
    clear h hl
    go_enter Try.func48, Try.ntmps48
    go_wp2_with fail
    refine (K1.out _ (H.out.below (bx _ _))).mono ?_
    rintro r w1 ⟨rfl, hb⟩
    have B1 := hid (below_tr (bx _ _) hb)
    clear hb K1
    go_wp2_with fail
    go_ret2
    exact ⟨by rw [HF.out]; rfl, B1.out⟩

end Go.Proofs.Ytiaddijibaclkaa.PLeaf
