/- entry's hand, in a fence: a box for the entry, its text cloned, and yield called. -/
import Derived.RangeFuncKeeps
import Derived.RangeFuncBound
import Derived.RangeFuncWrites
import Derived.RangeFuncCalls
import Derived.RangeFuncLeaves
import Derived.Shelf.Abstract
import Derived.Shelf.RegionOpen
import Derived.OwnWalkIn
import Derived.TacticsInMore
import Derived.LoopNIn
import Derived.LoopIn
import Derived.Test.YtlefcjgemojhpabTreeKd
namespace Go.Proofs.Ytlefcjgemojhpab.PTree
open Go Go.RowKit PPool
set_option maxRecDepth 100000
attribute [local go_sem] Oper.semAt_some
theorem anyDepth {m : Nat} (m' : Nat) {P : Program} {l : Nat} {args : Array Value} {W : World} {R : Ending → World → Prop} (h : YieldAt Fence.wide m P l args W R) : YieldAt Fence.wide m' P l args W R := by
  obtain ⟨fn, tmps, assign, body, hy, hR⟩ := h
  exact ⟨fn, tmps, assign, body, hy, hR.1, fun c cs _ => hR.2 c cs (room_wide _)⟩
theorem grown_of_below {W W' : World} (h : Below W.heap.size W W') : W.grownBy W' none := ⟨h.os, h.tape, h.output, h.size, fun k hk _ => h.block k hk⟩
def yv (x : En) : Array Value := #[.int .i64 x.k, .string x.t]
set_option maxHeartbeats 2000000 in
theorem hand_in (n l : Nat) (x : En) (hx : x.t.size ≤ 140737488355328) (W : World) (R : Ending → World → Prop)
    (hY : ∀ W1, Below W.heap.size W W1 → YieldAt Fence.wide (n - 1) Try.prog l (yv x) W1 R) (hR : ∀ e W', R e W' → ∃ b, e = .returned (.bool b)) :
    CallsIn Fence.wide n Try.prog 64 #[.agg #[.int .i64 x.k, .string x.t], .func (.yield l) #[] #[]] W R := by
  have KC := fun W => callsIn_wide (n := n - 1).2 (clone_any x.t W hx)
  refine callsIn_of_wp Try.func64 rfl trivial ?_ rfl
  simp only [Try.ntmps64, List.size_toArray, List.length_cons, List.length_nil, Nat.reduceAdd, Nat.reduceSub, Array.replicate_succ, Array.replicate_zero, List.push_toArray, List.append_toArray, List.nil_append, List.cons_append]
  have x0 : (W.alloc (.cells #[.int .i64 x.k, .string x.t] 87)).cell? ⟨W.heap.size, 0, none⟩ = some (.int .i64 x.k) := World.cell?_alloc_new W #[.int .i64 x.k, .string x.t] 87 0
  have x1 : (W.alloc (.cells #[.int .i64 x.k, .string x.t] 87)).cell? ⟨W.heap.size, 1, none⟩ = some (.string x.t) := World.cell?_alloc_new W #[.int .i64 x.k, .string x.t] 87 1
  have BW : Below W.heap.size W (W.alloc (.cells #[.int .i64 x.k, .string x.t] 87)) := bx _ _
  gi_wp2
  generalize W.alloc (.cells #[.int .i64 x.k, .string x.t] 87) = W2 at *
  have y0 := fun w3 (hb : Below W2.heap.size W2 w3) => TE.keep1 hb x0
  simp only [yv] at hY
  have hmx : Try.prog.follows Departure.mixedOrders = true := by kernel_rfl
  gi_region_with_o (first | (refine ⟨trivial, (fun h => by cases h), ?_⟩; gi_at_call 42; refine (KC _).mono ?_; rintro e w3 ⟨rfl, hb3⟩; have B3 : Below W.heap.size W w3 := below_tr BW (TE.drew_below hb3); obtain ⟨fn, tmps, assign, body, hy, hRR⟩ := hY w3 B3; have z0 := y0 w3 (TE.drew_below hb3)) | ((try refine ⟨(fun h => by cases h), ?_⟩); refine hRR.mono ?_; rintro e W' he; obtain ⟨b, rfl⟩ := hR e W' he))
  all_goals gi_wp2
  all_goals go_ret
  all_goals exact he
end Go.Proofs.Ytlefcjgemojhpab.PTree
