/- quirref.SameLeaf, walked. Conditions: lengths that an int holds. -/
import Derived.Test.YtiaddijibaclkaaLeafEq
namespace Go.Proofs.Ytiaddijibaclkaa.PLeaf
open Go Go.RowKit
set_option maxRecDepth 100000

theorem same_any (w : World) (a1 a2 : Option Addr) (c1 c2 : Nat) (l1 l2 : List Lf.Sl) (h1 : PgAt w a1 l1) (h2 : PgAt w a2 l2) (hl1 : l1.length ≤ 9223372036854775807) (hl2 : l2.length ≤ 9223372036854775807) :
    Calls Try.prog 55 #[.agg #[.slice a1 l1.length c1], .agg #[.slice a2 l2.length c2]] w fun e w' => ∃ r, e = .returned (.bool r) ∧ (r = true ↔ l1 = l2) ∧ Below w.heap.size w w' := by
  have K := hid fun W (hW1 : PgAt W a1 l1) (hW2 : PgAt W a2 l2) => equal_any W a1 a2 c1 c2 l1 l2 hW1 hW2 hl1 hl2
  have H1 := hid h1
  have H2 := hid h2
  clear h1 h2
  go_enter Try.func55, Try.ntmps55
  go_wp2_with fail
  refine (K.out _ (H1.out.below (below_tr (bx _ _) (bx _ _))) (H2.out.below (below_tr (bx _ _) (bx _ _)))).mono ?_
  rintro r w1 ⟨q, rfl, hq, hb⟩
  have HQ := hid hq
  have B1 := hid (below_tr (below_tr (bx _ _) (bx _ _)) hb)
  clear hq hb K
  go_wp2_with fail
  go_ret
  exact ⟨_, rfl, HQ.out, B1.out⟩

end Go.Proofs.Ytiaddijibaclkaa.PLeaf
