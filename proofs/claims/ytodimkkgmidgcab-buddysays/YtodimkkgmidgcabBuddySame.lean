/- quirref.SameBuddy, walked. Conditions: lengths that an int holds. -/
import Derived.Test.YtodimkkgmidgcabBuddyEq
namespace Go.Proofs.Ytodimkkgmidgcab.PBuddy
open Go Go.RowKit PPool
set_option maxRecDepth 100000

set_option maxHeartbeats 1000000 in
theorem same_any (w : World) (N M : Int) (a1 a2 : Option Addr) (c1 c2 : Nat) (l1 l2 : List Bd.Bk) (h1 : PgAt w a1 l1) (h2 : PgAt w a2 l2) (hl1 : l1.length ≤ 9223372036854775807) (hl2 : l2.length ≤ 9223372036854775807) :
    Calls Try.prog 9 #[bud N a1 l1.length c1, bud M a2 l2.length c2] w fun e w' => e = .returned (.bool (decide (N = M) && decide (l1 = l2))) ∧ Below w.heap.size w w' := by
  have KE := hid fun W (hW1 : PgAt W a1 l1) (hW2 : PgAt W a2 l2) => equal_any W a1 a2 c1 c2 l1 l2 hW1 hW2 hl1 hl2
  have H1 := hid h1
  have H2 := hid h2
  unfold bud
  clear h1 h2
  generalize decide (l1 = l2) = Z at *
  by_cases e : N = M
  · subst e
    rw [decide_eq_true rfl, Bool.true_and]
    have hb : (N == N) = true := by simp
    go_enter Try.func9, Try.ntmps9
    go_wp2_with fail
    refine (KE.out _ (H1.out.below (below_tr (bx _ _) (bx _ _))) (H2.out.below (below_tr (bx _ _) (bx _ _)))).mono ?_
    rintro r w3 ⟨rfl, hb3⟩
    have B3 := hid (below_tr (below_tr (bx _ _) (bx _ _)) hb3)
    clear hb3
    go_wp2_with fail
    go_ret
    exact ⟨rfl, B3.out⟩
  · rw [decide_eq_false e, Bool.false_and]
    have hb : (N == M) = false := by simpa using e
    go_enter Try.func9, Try.ntmps9
    go_wp2_with fail
    go_ret
    exact ⟨rfl, below_tr (bx _ _) (bx _ _)⟩

end Go.Proofs.Ytodimkkgmidgcab.PBuddy
