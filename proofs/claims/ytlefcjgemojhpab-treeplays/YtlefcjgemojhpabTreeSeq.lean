/- A tree's From: what it hands back is an iterator that hands on the entries from a key on, rising. -/
import Derived.Test.YtlefcjgemojhpabTreeFrom
namespace Go.Proofs.Ytlefcjgemojhpab.PTree
open Go Go.RowKit PPool
set_option maxRecDepth 100000
attribute [local go_sem] Oper.semAt_some
set_option maxHeartbeats 2000000 in
theorem from1_in (n l b N : Nat) (k : Int) (J Jx : List En → World → Prop) (hJ : ∀ s W W', J s W → Below W.heap.size W W' → J s W')
    (hY : ∀ m pre x W, J pre W → pre.length < N → YieldAt Fence.wide m Try.prog l (yv x) W fun e W' => (e = .returned (.bool true) ∧ J (pre ++ [x]) W' ∧ Below b W W') ∨ (e = .returned (.bool false) ∧ Jx (pre ++ [x]) W'))
    (W : World) (t : Nat) (o : Lab) (L : List En) (T : TreeAt W t o L) (ho : ∀ q, o q ≠ none → q < b) (hbW : b ≤ W.heap.size) (hT : Texts L) (Bt Bk : Nat) (ct : W.cell? ⟨Bt, 0, none⟩ = some (.pointer (some ⟨t, 0, none⟩))) (ck : W.cell? ⟨Bk, 0, none⟩ = some (.int .i64 k))
    (hj0 : J [] W) (hN : (ge k L).length ≤ N) :
    CallsIn Fence.wide n Try.prog 49 #[.func (.yield l) #[] #[], .pointer (some ⟨Bt, 0, none⟩), .pointer (some ⟨Bk, 0, none⟩)] W fun e W' => (∃ v, e = .returned v) ∧ (J (ge k L) W' ∨ ∃ q, q <+: ge k L ∧ Jx q W') := by
  obtain ⟨M, h, nd, A, T, rfl⟩ := T
  have KF := hid fun W1 (hb : Below W.heap.size W W1) => from_in b l N k J Jx hJ hY h W1 o M t nd A [] (n - 1) (T.mem.below hb) ho (Nat.le_trans hbW hb.size) T.tr T.sh T.up (by have := T.top; omega) hT (hJ _ _ _ hj0 hb) (by simpa using hN)
  clear T hJ hY ho hT hj0 hN
  refine callsIn_of_wp Try.func49 rfl trivial ?_ rfl
  simp only [Try.ntmps49, List.size_toArray, List.length_cons, List.length_nil, Nat.reduceAdd, Nat.reduceSub, Array.replicate_succ, Array.replicate_zero, List.push_toArray, List.append_toArray, List.nil_append, List.cons_append]
  gi_wp2_with fail
  have hmx : Try.prog.follows Departure.mixedOrders = true := by kernel_rfl
  gi_region_with_o (refine ⟨trivial, (fun h => by cases h), ?_⟩; gi_at_call 50; refine (KF.out _ (TE.drew_below (Below.refl _ _))).mono ?_; rintro e w3 hf; obtain ⟨c, rfl, h1, h2⟩ := FromTo.some hf; have HF := hid hf; clear hf)
  all_goals gi_wp2
  all_goals go_end0
  all_goals refine ⟨⟨_, rfl⟩, ?_⟩
  all_goals rcases HF.out with ⟨_, h3, _⟩ | ⟨_, q, h3, h4⟩
  all_goals first | exact .inl (by simpa using h3) | exact .inr ⟨q, h3, by simpa using h4⟩
theorem tree_seq (n b : Nat) (k : Int) (w : World) (t : Nat) (o : Lab) (L : List En) (T : TreeAt w t o L) (ho : ∀ q, o q ≠ none → q < b) (hbW : b ≤ w.heap.size) (hT : Texts L) (Bt Bk : Nat)
    (ct : w.cell? ⟨Bt, 0, none⟩ = some (.pointer (some ⟨t, 0, none⟩))) (ck : w.cell? ⟨Bk, 0, none⟩ = some (.int .i64 k)) :
    SeqStopsK Fence.wide n Try.prog 49 #[.pointer (some ⟨Bt, 0, none⟩), .pointer (some ⟨Bk, 0, none⟩)] yv (Below b) (fun ys => ys = ge k L) (fun q => q <+: ge k L) (ge k L).length w := fun l J Jx W hW hJ _ hY h0 =>
  (from1_in n l b _ k J Jx (fun s A B hs hb => hJ s A B none hs (grown_of_below hb) (fun r e => by cases e)) (fun m pre x W1 hj hl => anyDepth m (hY pre x W1 hj hl)) W t o L (T.below hW) ho (Nat.le_trans hbW hW.size) hT Bt Bk
    ((hW.cell (World.block_lt_of_cell? w _ ct)).trans ct) ((hW.cell (World.block_lt_of_cell? w _ ck)).trans ck) h0 (Nat.le_refl _)).mono fun e W' ⟨hv, h⟩ => ⟨hv, h.elim (fun h => .inl ⟨_, rfl, h⟩) (fun ⟨q, h1, h2⟩ => .inr ⟨q, h1, h2⟩)⟩
set_option maxHeartbeats 2000000 in
theorem from_any (w : World) (t : Nat) (k : Int) : Calls Try.prog 25 #[.pointer (some ⟨t, 0, none⟩), .int .i64 k] w fun e w' =>
    e = .returned (.func (.func 49) #[] #[.pointer (some ⟨w.heap.size, 0, none⟩), .pointer (some ⟨w.heap.size + 1, 0, none⟩)]) ∧ w' = (w.alloc (.cells #[.pointer (some ⟨t, 0, none⟩)] 45)).alloc (.cells #[.int .i64 k] 3) := by
  go_enter Try.func25, Try.ntmps25
  go_wp2_with fail
  go_ret
  exact ⟨rfl, rfl⟩
end Go.Proofs.Ytlefcjgemojhpab.PTree
