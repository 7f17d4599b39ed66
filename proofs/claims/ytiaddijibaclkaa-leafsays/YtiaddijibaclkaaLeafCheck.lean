/- leaf.endsUnused, putCount, putHead, size and Check, walked: each answers what the plain functions say, and nothing that was there has turned. Conditions: how many slots there are, how long their texts are. -/
import Derived.Test.YtiaddijibaclkaaLeafMem
import Derived.Deep.RegionHeld3
import Derived.Deep.QuietTactic
import Derived.BigQuiet
namespace Go.Proofs.Ytiaddijibaclkaa.PLeaf
open Go Go.RowKit
set_option maxRecDepth 100000

/-- Texts that a machine can hold. -/
def Txs (X : List Lf.Sl) : Prop := ∀ x ∈ X, x.text.size ≤ 140737488355328

theorem below_tr {a b c : World} (h : Below a.heap.size a b) (k : Below b.heap.size b c) : Below a.heap.size a c := h.trans (k.mono h.size)
theorem bx (w : World) (o : Obj) : Below w.heap.size w (w.alloc o) := (Below.refl _ w).alloc (Nat.le_refl _) o
theorem below_eq {w w' : World} (h : w' = w) : Below w.heap.size w w' := h ▸ Below.refl _ _

theorem putNat_int (n : Int) (w : World) (h0 : 0 ≤ n) (h1 : n ≤ 18446744073709551615) :
    Calls Try.prog 16 #[.int .u64 n] w fun e w' => e = .returned (.string ⟨(PCode.Nb.natB n.toNat).toArray⟩) ∧ Below w.heap.size w w' := by
  obtain ⟨m, rfl⟩ := Int.eq_ofNat_of_zero_le h0
  exact PCode.putNat_any m w (by omega)

set_option maxHeartbeats 1000000 in
theorem ends_any (w : World) (a : Option Addr) (c : Nat) (X : List Lf.Sl) (h : PgAt w a X) (hn : X.length ≤ 9223372036854775807) :
    Calls Try.prog 92 #[.slice a X.length c] w fun e w' => e = .returned (.bool (Lf.ends X)) ∧ w' = w := by
  rcases Nat.eq_zero_or_pos X.length with h0 | h0
  · have : X = [] := List.eq_nil_of_length_eq_zero h0
    subst this
    clear h h0 hn
    go_enter Try.func92, Try.ntmps92
    go_wp2_with fail
    go_ret
    exact ⟨rfl, rfl⟩
  · obtain ⟨x, hx⟩ : ∃ x, X[X.length - 1]? = some x := ⟨_, List.getElem?_eq_getElem (by omega)⟩
    obtain ⟨b, o, rfl, c1, c2⟩ := h _ _ hx
    have HE := hid (Lf.ends_at hx)
    clear h hx
    obtain ⟨n, hl⟩ : ∃ n, X.length = n + 1 := ⟨X.length - 1, by omega⟩
    rw [hl] at c1 c2 hn ⊢
    rw [Nat.add_sub_cancel] at c1 c2
    have j1 : decide ((0 : Int) < ((n + 1 : Nat) : Int)) = true := by simp
    have k1 : (0 : Int) ≤ (n : Int) := by omega
    have k2 : (n : Int) < ((n + 1 : Nat) : Int) := by omega
    obtain ⟨E, hE⟩ : ∃ E, E = Lf.ends X := ⟨_, rfl⟩
    rw [← hE]
    have HE' : Hid (E = !x.used) := hE.trans HE.out
    clear hE HE hl h0
    go_enter Try.func92, Try.ntmps92
    go_wp2_with fail
    go_ret
    exact ⟨by rw [HE'.out]; rfl, rfl⟩

theorem count_any (w : World) (a : Option Addr) (n c : Nat) (hn : n ≤ 9223372036854775807) :
    Calls Try.prog 93 #[.agg #[.slice a n c]] w fun e w' => e = .returned (.string ⟨(PCode.Nb.natB n).toArray⟩) ∧ Below w.heap.size w w' := by
  have K := hid fun W => PCode.putNat_any n W (by omega)
  have hn' : (n : Int) ≤ 9223372036854775807 := by omega
  go_enter Try.func93, Try.ntmps93
  go_wp2_with fail
  refine (K.out _).mono ?_
  rintro r w1 ⟨rfl, hb⟩
  go_wp2_with fail
  go_ret
  exact ⟨rfl, below_tr (bx _ _) hb⟩

theorem head_any (w : World) (x : Lf.Sl) (hx : x.text.size ≤ 140737488355328) :
    Calls Try.prog 94 #[.agg #[.bool x.used, .string x.text]] w fun e w' => e = .returned (.string ⟨(Lf.head x).toArray⟩) ∧ Below w.heap.size w w' := by
  obtain ⟨u, t⟩ := x
  cases u with
  | false =>
    have K := hid fun W => putNat_int 0 W (by omega) (by omega)
    clear hx
    go_enter Try.func94, Try.ntmps94
    go_wp2_with fail
    refine (K.out _).mono ?_
    rintro r w1 ⟨rfl, hb⟩
    go_wp2_with fail
    go_ret
    exact ⟨rfl, below_tr (bx _ _) hb⟩
  | true =>
    have hx : t.size ≤ 140737488355328 := hx
    have K := hid fun W => putNat_int ((t.size : Int) + 1) W (by omega) (by omega)
    have hx' : (t.size : Int) ≤ 140737488355328 := by omega
    go_enter Try.func94, Try.ntmps94
    go_wp2_with fail
    refine (K.out _).mono ?_
    rintro r w1 ⟨rfl, hb⟩
    go_wp2_with fail
    go_ret
    exact ⟨rfl, below_tr (bx _ _) hb⟩

end Go.Proofs.Ytiaddijibaclkaa.PLeaf
