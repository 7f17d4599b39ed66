/- Go's slices.ContainsFunc at blocks, walked, over whatever test it is handed; the tests of BuddyBack. Conditions: lengths that an int holds. -/
import Derived.Test.YtodimkkgmidgcahBuddyIdx
namespace Go.Proofs.Ytodimkkgmidgcah.PBuddy
open Go Go.RowKit PPool
set_option maxRecDepth 100000

theorem ixF_any (P : Bd.Bk → Bool) (X : List Bd.Bk) : decide ((0 : Int) ≤ ixF P X) = X.any P := by
  unfold ixF
  by_cases h : X.findIdx P = X.length
  · rw [if_pos h, decide_eq_false (by omega)]
    symm
    rw [Bool.eq_false_iff]
    intro ha
    obtain ⟨x, hx, hp⟩ := List.any_eq_true.1 ha
    have := (List.findIdx_eq_length.1 h) x hx
    rw [hp] at this
    cases this
  · rw [if_neg h, decide_eq_true (by omega)]
    have hlt : X.findIdx P < X.length := by have := List.findIdx_le_length (p := P) (xs := X); omega
    exact (List.any_eq_true.2 ⟨_, List.getElem_mem hlt, List.findIdx_getElem (w := hlt)⟩).symm

set_option maxHeartbeats 1000000 in
theorem has_any (w : World) (a : Option Addr) (c : Nat) (X : List Bd.Bk) (f : Nat) (caps : Array Value) (P : Bd.Bk → Bool) (hent : ∀ (args : Array Value) (W : World), (callFunc f args).run Try.prog W = .ok (.enter f args) W)
    (hP : ∀ W x, x ∈ X → Below w.heap.size w W → Calls Try.prog f (#[.agg #[.int .i64 x.a, .int .i64 x.o]] ++ caps) W fun e W' => e = .returned (.bool (P x)) ∧ Below W.heap.size W W') (h : PgAt w a X) (hl : X.length ≤ 9223372036854775807) :
    Calls Try.prog 11 #[.slice a X.length c, .func (.func f) #[] caps] w fun e w' => e = .returned (.bool (X.any P)) ∧ Below w.heap.size w w' := by
  have HI := hid (index_any w a c X f caps P hent hP h hl)
  rw [← ixF_any]
  generalize ixF P X = Y at *
  clear hP h hent
  go_enter Try.func11, Try.ntmps11
  go_wp2_with fail
  refine (HI.out).mono ?_
  rintro r w1 ⟨rfl, hb⟩
  have B := hid hb
  clear hb
  go_wp2_with fail
  go_ret
  exact ⟨rfl, B.out⟩

theorem back1_any (w : World) (x : Bd.Bk) (q : Addr) (k : Int) (h : w.cell? q = some (.int .i64 k)) :
    Calls Try.prog 12 #[.agg #[.int .i64 x.a, .int .i64 x.o], .pointer (some q)] w fun e w' => e = .returned (.bool (decide (k ≤ x.o))) ∧ Below w.heap.size w w' := by
  obtain ⟨a, o⟩ := x
  have h' := keep1 (bx w (.cells #[.int .i64 a, .int .i64 o] 29)) h
  simp only
  go_enter Try.func12, Try.ntmps12
  go_wp2_with fail
  go_ret
  exact ⟨rfl, bx _ _⟩

/-- Does the block at z of order k lie in x? -/
def inB (z k : Nat) (x : Bd.Bk) : Bool := decide (x.a ≤ (z : Int)) && decide ((z : Int) + 2 ^ k ≤ x.a + 2 ^ x.o.toNat)

set_option maxHeartbeats 1000000 in
theorem back2_any (w : World) (xa xo : Nat) (q r : Addr) (z k : Nat) (h : w.cell? q = some (.int .i64 (z : Int))) (h2 : w.cell? r = some (.int .i64 (k : Int))) (hxo : xo ≤ 10) (hk : k ≤ 10) (hz : z ≤ 1024) (hxa : xa ≤ 1024) :
    Calls Try.prog 14 #[.agg #[.int .i64 (xa : Int), .int .i64 (xo : Int)], .pointer (some q), .pointer (some r)] w fun e w' => e = .returned (.bool (inB z k (Bd.bk xa xo))) ∧ Below w.heap.size w w' := by
  obtain ⟨p, P1, p2, p3, s1, s1'⟩ := shl1 hxo
  obtain ⟨m, M1, m2, m3, s2, s2'⟩ := shl1 hk
  have h' := keep1 (bx w (.cells #[.int .i64 (xa : Int), .int .i64 (xo : Int)] 29)) h
  have h2' := keep1 (bx w (.cells #[.int .i64 (xa : Int), .int .i64 (xo : Int)] 29)) h2
  have e : inB z k (Bd.bk xa xo) = (decide ((xa : Int) ≤ (z : Int)) && decide ((z : Int) + (m : Int) ≤ (xa : Int) + (p : Int))) := by
    have e1 := Bd.cast_pow k
    have e2 := Bd.cast_pow xo
    rw [← M1.out] at e1
    rw [← P1.out] at e2
    have e3 : (Bd.bk xa xo).o.toNat = xo := Int.toNat_natCast xo
    unfold inB
    rw [e3, e1, e2]
    rfl
  rw [e]
  have w1 : IntKind.i64.wrap ((z : Int) + (m : Int)) = (z : Int) + (m : Int) := IntWalk.i64_in _ ⟨by omega, by omega⟩
  have w2 : IntKind.i64.wrap ((xa : Int) + (p : Int)) = (xa : Int) + (p : Int) := IntWalk.i64_in _ ⟨by omega, by omega⟩
  clear e P1 M1
  by_cases hle : (xa : Int) ≤ (z : Int)
  · have j1 : decide ((xa : Int) ≤ (z : Int)) = true := by simpa using hle
    have j2 : decide (xa ≤ z) = true := by simp; omega
    rw [j1, Bool.true_and]
    go_enter Try.func14, Try.ntmps14
    go_wp2_with fail
    go_quiet (fail)
    go_wp2_with fail
    go_ret
    exact ⟨rfl, below_drewN (bx _ _) _⟩
  · have j1 : decide ((xa : Int) ≤ (z : Int)) = false := by simpa using hle
    have j2 : decide (xa ≤ z) = false := by simp; omega
    rw [j1, Bool.false_and]
    go_enter Try.func14, Try.ntmps14
    go_wp2_with fail
    go_quiet (fail)
    go_wp2_with fail
    go_ret
    exact ⟨rfl, below_drewN (bx _ _) _⟩

end Go.Proofs.Ytodimkkgmidgcah.PBuddy
