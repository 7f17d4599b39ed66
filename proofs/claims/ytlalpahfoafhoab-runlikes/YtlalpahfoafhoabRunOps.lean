/- run.clash, .lastOther, (ends).allCommitted, run.endsOf, run.Check, walked: they answer what the plain functions say, and nothing that was there has turned. Conditions: the operations lie where their slice says; each transaction's number is one of twelve (Check: none). -/
import Derived.Test.YtlalpahfoafhoabRunChk
import Derived.BigRegion
namespace Go.Proofs.Ytlalpahfoafhoab.PRun
open Go Go.RowKit PPool PGraph
set_option maxRecDepth 100000

attribute [local go_sem ↓] loadE_pre storeE_pre
theorem ends_take {X : List Rn.Op} {k : Nat} {x : Rn.Op} (hx : X[k]? = some x) : Rn.ends (X.take (k + 1)) = fun t => Rn.fin (Rn.ends (X.take k) t) x t := by
  rw [Rn.take_snoc hx]; funext t; exact Rn.ends_snoc _ _ _

def oV (o : Rn.Op) : Value := .agg #[.int .i64 o.x, .int .i64 o.k, .int .i64 o.i]

set_option maxHeartbeats 2000000 in
theorem clash_any (w : World) (p q : Rn.Op) :
    Calls Try.prog 114 #[.agg #[.int .i64 p.x, .int .i64 p.k, .int .i64 p.i], .agg #[.int .i64 q.x, .int .i64 q.k, .int .i64 q.i]] w fun e w' => e = .returned (.bool (Rn.clash p q)) ∧ Below w.heap.size w w' := by
  have K1 := hid fun W => item_any W p
  have K2 := hid fun W => item_any W q
  obtain ⟨Y, hY⟩ : ∃ Y, Y = Rn.clash p q := ⟨_, rfl⟩
  rw [← hY]
  have hb0 := fun a b => hid (bx2 w a b)
  have HY := hid hY
  clear hY
  obtain ⟨px, pk, pi⟩ := p
  obtain ⟨qx, qk, qi⟩ := q
  obtain ⟨I1, hI1⟩ : ∃ I, I = Rn.item ⟨px, pk, pi⟩ := ⟨_, rfl⟩
  obtain ⟨I2, hI2⟩ : ∃ I, I = Rn.item ⟨qx, qk, qi⟩ := ⟨_, rfl⟩
  rw [← hI1] at K1
  rw [← hI2] at K2
  have HY1 : Hid (Y = (decide (px ≠ qx) && decide (pi = qi) && I1 && I2 && (decide (pk = 2) || decide (qk = 2)))) := by rw [hI1, hI2]; exact HY.out
  clear HY hI1 hI2
  have B2 : ∀ a b (W : World), Hid (Below ((w.alloc a).alloc b).heap.size ((w.alloc a).alloc b) W → Below w.heap.size w W) := fun a b W h => below_tr (bx2 w a b) h
  by_cases c1 : px = qx
  · have HYf : Hid (Y = false) := by show Y = false; rw [HY1.out]; simp [c1]
    subst c1
    clear HY1
    go_enter Try.func114, Try.ntmps114
    go_wp2_with fail
    go_ret
    exact ⟨by rw [HYf.out]; rfl, (hb0 _ _).out⟩
  have c1n : (px != qx) = true := by simpa using c1
  by_cases c2 : pi = qi
  rotate_left
  · have HYf : Hid (Y = false) := by show Y = false; rw [HY1.out]; simp [c2]
    have c2 : (pi == qi) = false := by simpa using c2
    clear HY1
    go_enter Try.func114, Try.ntmps114
    go_wp2_with fail
    go_ret
    exact ⟨by rw [HYf.out]; rfl, (hb0 _ _).out⟩
  subst c2
  have HYc : Hid (Y = (I1 && I2 && (decide (pk = 2) || decide (qk = 2)))) := by show Y = _; rw [HY1.out]; simp [c1]
  clear HY1 c1
  go_enter Try.func114, Try.ntmps114
  go_wp2_with fail
  refine (K1.out _).mono ?_
  rintro r w1 ⟨rfl, hb1⟩
  have C1 : w1.cell? ⟨w.heap.size, 1, none⟩ = some (.int .i64 pk) ∧ w1.cell? ⟨w.heap.size + 1, 0, none⟩ = some (.int .i64 qx) ∧ w1.cell? ⟨w.heap.size + 1, 1, none⟩ = some (.int .i64 qk) ∧ w1.cell? ⟨w.heap.size + 1, 2, none⟩ = some (.int .i64 pi) := by
    have := box3 (hb1)
    have e : (w.alloc (.cells #[.int .i64 px, .int .i64 pk, .int .i64 pi] 129)).heap.size = w.heap.size + 1 := by simp
    rw [e] at this
    exact ⟨(box3 (below_tr (bx _ _) hb1)).2.1, this⟩
  have B1 : Hid (Below w.heap.size w w1) := (B2 _ _ _).out hb1
  obtain ⟨d0, d1, d2, d3⟩ := C1
  clear hb1 B2 hb0
  cases I1 with
  | false =>
    have HYf : Hid (Y = false) := by show Y = false; rw [HYc.out]; rfl
    go_wp2_with fail
    go_ret
    exact ⟨by rw [HYf.out]; rfl, B1.out⟩
  | true =>
    go_wp2_with fail
    refine (K2.out _).mono ?_
    rintro r w2 ⟨rfl, hb2⟩
    have B2 : Hid (Below w.heap.size w w2) := below_tr B1.out hb2
    have d0 := keep1 hb2 d0
    have d2 := keep1 hb2 d2
    clear hb2 B1
    cases I2 with
    | false =>
      have HYf : Hid (Y = false) := by show Y = false; rw [HYc.out]; rfl
      go_wp2_with fail
      go_ret
      exact ⟨by rw [HYf.out]; rfl, B2.out⟩
    | true =>
      by_cases p2 : pk = 2
      · have HYf : Hid (Y = true) := by show Y = true; rw [HYc.out]; simp [p2]
        subst p2
        clear HYc
        go_wp2_with fail
        go_ret
        exact ⟨by rw [HYf.out]; rfl, B2.out⟩
      · have p2' : (pk == 2) = false := by simpa using p2
        by_cases q2 : qk = 2
        · have HYf : Hid (Y = true) := by show Y = true; rw [HYc.out]; simp [q2]
          subst q2
          clear HYc
          go_wp2_with fail
          go_ret
          exact ⟨by rw [HYf.out]; rfl, B2.out⟩
        · have HYf : Hid (Y = false) := by show Y = false; rw [HYc.out]; simp [p2, q2]
          have q2' : (qk == 2) = false := by simpa using q2
          clear HYc p2 q2
          go_wp2_with fail
          go_ret
          exact ⟨by rw [HYf.out]; rfl, B2.out⟩

set_option maxHeartbeats 2000000 in
theorem endsOf_any (w : World) (a : Option Addr) (c : Nat) (X : List Rn.Op) (h : OpAt w a X) (hl : X.length ≤ 9223372036854775807) (hX : ∀ o ∈ X, 0 ≤ o.x ∧ o.x < 12) :
    Calls Try.prog 75 #[.slice a X.length c] w fun e w' => e = .returned (.agg (eA (Rn.ends X))) ∧ Below w.heap.size w w' := by
  have hz := (zero_of_info ends_info).1
  have KB := hid fun W E o h0 h1 => behind_any W E o h0 h1
  have H := hid h
  have HX := hid hX
  clear h hX
  obtain ⟨W0, hW0⟩ : ∃ W0, W0 = (w.alloc (.cells (eA fun _ => 0) 135)).alloc (.cells (eA fun _ => 0) 135) := ⟨_, rfl⟩
  have A0 : Hid (ArrAt W0 w.heap.size (eA fun _ => 0) ∧ ArrAt W0 (w.heap.size + 1) (eA fun _ => 0) ∧ Below w.heap.size w W0) := by
    subst hW0
    refine ⟨(ArrAt.new w _ _).below (bx _ _), ?_, bx2 _ _ _⟩
    have := ArrAt.new (w.alloc (.cells (eA fun _ => 0) 135)) (eA fun _ => 0) 135
    rwa [show (w.alloc (.cells (eA fun _ => 0) 135)).heap.size = w.heap.size + 1 by simp] at this
  go_enter Try.func75, Try.ntmps75
  go_wp2_with fail
  rw [← hW0]
  clear hW0
  go_loopw [8] (fun i wr => ∃ k : Nat, k ≤ X.length ∧ i = .int .i64 (k : Int) ∧ Hid (ArrAt wr w.heap.size (eA fun _ => 0) ∧ ArrAt wr (w.heap.size + 1) (eA (Rn.ends (X.take k))) ∧ Below w.heap.size w wr)) (fun i _ => X.length - (intOf i).toNat)
  case atStart => exact ⟨0, Nat.zero_le _, rfl, A0⟩
  case round =>
    obtain ⟨k, hk, rfl, hA⟩ := hrel
    clear A0
    by_cases hlt : k < X.length
    · obtain ⟨x, hx⟩ : ∃ x, X[k]? = some x := ⟨_, List.getElem?_eq_getElem hlt⟩
      obtain ⟨b, o, rfl, d1, d2, d3⟩ := (H.out.below hA.out.2.2) k x hx
      have k0 : (0 : Int) ≤ (k : Int) := by omega
      have k1 : (k : Int) < (X.length : Int) := by omega
      have HT := hid (ends_take hx)
      have HB := hid fun W E => KB.out W E x (HX.out x (List.mem_of_getElem? hx)).1 (HX.out x (List.mem_of_getElem? hx)).2
      clear hx
      obtain ⟨E, hE⟩ : ∃ E, E = Rn.ends (X.take k) := ⟨_, rfl⟩
      rw [← hE] at HT hA
      clear hE
      obtain ⟨E', hE'⟩ : ∃ E', E' = fun t => Rn.fin (E t) x t := ⟨_, rfl⟩
      have HB := hid (show ∀ W, _ from fun W => HB.out W E)
      rw [← hE'] at HT HB
      clear hE'
      obtain ⟨ox, ok, oi⟩ := x
      simp only at d1 d2 d3
      have hl : ∀ o : Obj, (loadE (.pointer (some ⟨w.heap.size + 1, 0, none⟩))).run Try.prog (wr.alloc o) = .ok (.agg (eA E)) (wr.alloc o) := fun o => run_loadE (hA.out.2.1.below (bx _ _))
      have hsz := hA.out.2.2.size
      go_wp2_with fail
      refine (HB.out _).mono ?_
      rintro r w3 ⟨rfl, hb3⟩
      have hb3 := below_tr (bx _ _) hb3
      have A3 := hA.out.2.1.below hb3
      have hs := run_storeE (E := E') A3
      have hA4 : Hid (ArrAt (w3.setRow (w.heap.size + 1) (eA E')) w.heap.size (eA fun _ => 0) ∧ ArrAt (w3.setRow (w.heap.size + 1) (eA E')) (w.heap.size + 1) (eA (Rn.ends (X.take (k + 1)))) ∧ Below w.heap.size w (w3.setRow (w.heap.size + 1) (eA E'))) := by
        refine ⟨(hA.out.1.below hb3).other _ (by omega), ?_, Below.row (below_tr hA.out.2.2 hb3) (by omega) _⟩
        rw [HT.out]; exact A3.row _
      clear A3 HT hb3 hA HB d1 d2 d3 hl
      go_wp2_with fail
      go_roundw
      case rel => exact ⟨k + 1, by omega, by go_num, hA4⟩
      case measure => simp [intOf]; omega
    · obtain rfl : k = X.length := by omega
      have hA : Hid (ArrAt wr w.heap.size (eA fun _ => 0) ∧ ArrAt wr (w.heap.size + 1) (eA (Rn.ends X)) ∧ Below w.heap.size w wr) := by have := hA.out; rwa [List.take_length] at this
      have hl := run_loadE hA.out.2.1
      have hs := run_storeE (E := Rn.ends X) hA.out.1
      obtain ⟨f1, f2⟩ : Hid (ArrAt (wr.setRow w.heap.size (eA (Rn.ends X))) w.heap.size (eA (Rn.ends X))) ∧ Hid (Below w.heap.size w (wr.setRow w.heap.size (eA (Rn.ends X)))) :=
        ⟨hA.out.1.row _, Below.row hA.out.2.2 (Nat.le_refl _) _⟩
      have j3 : decide ((X.length : Int) < (X.length : Int)) = false := by simp
      go_wp2_with fail
      exact bodyPost_ret (f1.out.result rfl rfl) rfl ⟨rfl, f2.out⟩
end Go.Proofs.Ytlalpahfoafhoab.PRun
