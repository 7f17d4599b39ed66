/- The first tree that TreeOrder makes. -/
import Derived.Test.YtlefcjgemojhpahTreeSeq
import Derived.Test.YtlefcjgemojhpahTreeTrd
namespace Go.Proofs.Ytlefcjgemojhpah.PTree
open Go Go.RowKit PPool
set_option maxRecDepth 100000
attribute [local go_sem] Oper.semAt_some
theorem two_at (w : World) (k1 n1 k2 n2 : Int) (s1 s2 : ByteArray) (ty : TypeId) : KdAt (w.alloc (.cells #[.int .i64 k1, .int .i64 n1, .string s1, .int .i64 k2, .int .i64 n2, .string s2] ty)) (some ⟨w.heap.size, 0, none⟩) [⟨k1, n1, s1⟩, ⟨k2, n2, s2⟩] := fun j x hj => by
  have c := fun i => World.cell?_alloc_new w #[.int .i64 k1, .int .i64 n1, .string s1, .int .i64 k2, .int .i64 n2, .string s2] ty i
  match j, hj with
  | 0, hj =>
    simp only [List.getElem?_cons_zero, Option.some.injEq] at hj
    subst hj
    exact ⟨w.heap.size, 0, rfl, by simp, c 0, c 1, c 2⟩
  | 1, hj =>
    simp only [List.getElem?_cons_succ, List.getElem?_cons_zero, Option.some.injEq] at hj
    subst hj
    exact ⟨w.heap.size, 0, rfl, by simp, c 3, c 4, c 5⟩
  | j + 2, hj => simp at hj
theorem run_two : runK [⟨1, 5, ⟨#[97]⟩⟩, ⟨1, 3, ⟨#[98]⟩⟩] = [⟨3, ⟨#[98]⟩⟩, ⟨5, ⟨#[97]⟩⟩] := by
  unfold runK
  simp only [List.foldl_cons, List.foldl_nil, stepK]
  rw [if_neg (by decide), if_neg (by decide)]
  simp [putL, up, getL]
def TwoTo (W : World) (e : Ending) (w' : World) : Prop := ∃ t o, e = .returned (.pointer (some ⟨t, 0, none⟩)) ∧ TreeAt w' t o [⟨3, ⟨#[98]⟩⟩, ⟨5, ⟨#[97]⟩⟩] ∧ Below W.heap.size W w'
theorem two_treed (W : World) : Calls Try.prog 19 #[.slice (some ⟨W.heap.size, 0, none⟩) 2 2] (W.alloc (.cells #[.int .i64 1, .int .i64 5, .string ⟨#[97]⟩, .int .i64 1, .int .i64 3, .string ⟨#[98]⟩] 49)) (TwoTo W) := by
  have h := treed_any _ (some ⟨W.heap.size, 0, none⟩) 2 [⟨1, 5, ⟨#[97]⟩⟩, ⟨1, 3, ⟨#[98]⟩⟩] (two_at W 1 5 1 3 ⟨#[97]⟩ ⟨#[98]⟩ 49) (by simp) (by intro x hx; simp at hx; rcases hx with rfl | rfl <;> decide)
  refine h.mono fun e w' ⟨t, o, h1, h2, _, _, h5⟩ => ⟨t, o, h1, by rw [run_two] at h2; exact h2, below_tr (bx _ _) h5⟩
end Go.Proofs.Ytlefcjgemojhpah.PTree
