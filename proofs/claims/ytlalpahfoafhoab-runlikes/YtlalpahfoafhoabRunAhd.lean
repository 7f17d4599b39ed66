/- run.allAhead, run.Edges, walked: each answers what the plain words say, and nothing that was there has turned. Conditions: the operations lie where their slice says; the capacity is no less than the length. -/
import Derived.Test.YtlalpahfoafhoabRunPA
import Derived.Deep.CutRange
namespace Go.Proofs.Ytlalpahfoafhoab.PRun
open Go Go.RowKit PPool PGraph
set_option maxRecDepth 100000

def loadP (v : Value) : Sem Value := Instr.loadAt 132 v
theorem loadP_pre (v : Value) : Instr.loadAt 132 v = loadP v := rfl
theorem run_loadP {W : World} {b : Nat} {R : Nat → Nat → Bool} (h : ArrAt W b (pA R)) : (loadP (.pointer (some ⟨b, 0, none⟩))).run Try.prog W = .ok (.agg (pA R)) W := by
  have := run_loadAt_mid (P := Try.prog) W b 0 132 (pA R).toList _ h.range Try.underlying132 rfl (by rw [Array.length_toList, pA_size]; exact (zero_of_info pairs_info).2)
  rwa [Array.toArray_toList] at this
def storeP (v x : Value) : Sem Unit := Instr.storeAt 132 v x
theorem storeP_pre (v x : Value) : Instr.storeAt 132 v x = storeP v x := rfl
theorem pA_one (R : Nat → Nat → Bool) : (pA R).all (·.oneCell') = true := by
  refine Array.all_eq_true_iff_forall_mem.2 fun v hv => ?_
  simp only [pA, List.mem_toArray, List.mem_flatMap, List.mem_map] at hv
  obtain ⟨s, _, t, _, rfl⟩ := hv
  rfl
theorem run_storeP {W : World} {b : Nat} {R0 R : Nat → Nat → Bool} (h : ArrAt W b (pA R0)) : (storeP (.pointer (some ⟨b, 0, none⟩)) (.agg (pA R))).run Try.prog W = .ok () (W.setRow b (pA R)) := by
  obtain ⟨T, h⟩ := h
  have := run_storeVar_row (P := Try.prog) W b T 132 (pA R0) (pA R) h (by rw [pA_size]; exact (zero_of_info pairs_info).2) (by rw [pA_size, pA_size]) (pA_one R)
  unfold storeP
  simp only [Instr.storeAt, Instr.sureAddr, Sem.run_bind, Sem.run_pure, Result.andThen_ok, this]
theorem ArrAt.resultP {w : World} {b : Nat} {R : Nat → Nat → Bool} (h : ArrAt w b (pA R)) {fn : Func} {p : Tmp} (hf : fn.results = #[.cell p 132]) {tmps : Array Value} (hp : tmps.getD p undef = .pointer (some ⟨b, 0, none⟩)) :
    (results fn tmps).run Try.prog w = .ok (.agg (pA R)) w := by
  obtain ⟨T, h⟩ := h
  exact results_cell_row hf tmps w b T _ _ _ hp h Try.underlying132 rfl (by rw [pA_size]; exact (zero_of_info pairs_info).2)
attribute [local go_sem ↓] loadP_pre storeP_pre

/-- How all stands while the pairs are gathered. -/
structure AhAt (w W : World) (R : Nat → Nat → Bool) : Prop where
  res : ArrAt W w.heap.size (pA fun _ _ => false)
  arr : ArrAt W (w.heap.size + 1) (pA R)
  bel : Below w.heap.size w W
theorem AhAt.below {w W W' : World} {R : Nat → Nat → Bool} (h : AhAt w W R) (hb : Below W.heap.size W W') : AhAt w W' R := ⟨h.res.below hb, h.arr.below hb, below_tr h.bel hb⟩
theorem AhAt.lay {w W : World} {R : Nat → Nat → Bool} (h : AhAt w W R) {s t : Nat} (hs : s < 12) (ht : t < 12) (v : Bool) : AhAt w (W.setCell ⟨w.heap.size + 1, s * 12 + t, none⟩ (.bool v)) (Go.Proofs.Ytlalpahfoafhoab.PRun.lay R s t v) :=
  ⟨h.res.apart (by omega) _ _, by rw [← pA_set R hs ht v]; exact h.arr.put _ _, h.bel.setCell (p := ⟨w.heap.size + 1, s * 12 + t, none⟩) (Nat.le_succ _) _⟩
theorem aheadTo_hit {X : List Rn.Op} {b a : Nat} {p q : Rn.Op} (hab : a < b) (hp : X[a]? = some p) (hq : X[b]? = some q) {s t : Nat} (hps : p.x = s) (hqt : q.x = t) (hc : Rn.clash p q = true) : Rn.aheadTo X b (a + 1) = lay (Rn.aheadTo X b a) s t true := by
  funext i j
  rw [Rn.aheadTo_next hab hp hq, hc]
  unfold lay
  by_cases e : i = s ∧ j = t
  · rw [if_pos e]
    obtain ⟨rfl, rfl⟩ := e
    simp [hps, hqt]
  · rw [if_neg e]
    have : (decide (p.x = (i : Int)) && decide (q.x = (j : Int))) = false := by
      apply Bool.eq_false_iff.2
      intro h
      simp only [Bool.and_eq_true, decide_eq_true_eq] at h
      exact e ⟨by omega, by omega⟩
    rw [this]; simp
theorem aheadTo_miss {X : List Rn.Op} {b a : Nat} {p q : Rn.Op} (hab : a < b) (hp : X[a]? = some p) (hq : X[b]? = some q) (hc : Rn.clash p q = false) : Rn.aheadTo X b (a + 1) = Rn.aheadTo X b a := by
  funext i j
  rw [Rn.aheadTo_next hab hp hq, hc]; simp

set_option maxHeartbeats 4000000 in
theorem allAhead_any (w : World) (a : Option Addr) (c : Nat) (X : List Rn.Op) (h : OpAt w a X) (hl : X.length ≤ 200) (hcap : X.length ≤ c) (hX : ∀ o ∈ X, 0 ≤ o.x ∧ o.x < 12) :
    Calls Try.prog 74 #[.slice a X.length c] w fun e w' => e = .returned (.agg (pA (Rn.ahead X))) ∧ Below w.heap.size w w' := by
  have H := hid h
  have HX := hid hX
  have KC := hid fun W p q => clash_any W p q
  have hz := (zero_of_info pairs_info).1
  clear h hX
  have A0 : ∀ T1 T2, Hid (AhAt w ((w.alloc (.cells (pA fun _ _ => false) T1)).alloc (.cells (pA fun _ _ => false) T2)) (Rn.aheadTo X 0 0)) := fun T1 T2 => by
    have e : Rn.aheadTo X 0 0 = fun _ _ => false := by funext i j; exact Rn.aheadTo_start X i j
    rw [e]
    refine ⟨(ArrAt.new w _ _).below (bx _ _), ?_, bx2 _ _ _⟩
    have := ArrAt.new (w.alloc (.cells (pA fun _ _ => false) T1)) (pA fun _ _ => false) T2
    rwa [show (w.alloc (.cells (pA fun _ _ => false) T1)).heap.size = w.heap.size + 1 by simp] at this
  go_enter Try.func74, Try.ntmps74
  go_wp2_with fail
  go_loopw [4, 5, 7, 10] (fun _ _ _ i wr => ∃ k : Nat, k ≤ X.length ∧ i = .int .i64 (k : Int) ∧ Hid (AhAt w wr (Rn.aheadTo X k 0))) (fun _ _ _ i _ => X.length - (intOf i).toNat)
  case atStart => exact ⟨0, Nat.zero_le _, rfl, A0 _ _⟩
  case round =>
    clear A0
    obtain ⟨k, hk, rfl, hA⟩ := hrel
    by_cases hlt : k < X.length
    · obtain ⟨x, hx⟩ : ∃ x, X[k]? = some x := ⟨_, List.getElem?_eq_getElem hlt⟩
      obtain ⟨b, o, rfl, d1, d2, d3⟩ := (H.out.below hA.out.bel) k x hx
      have k0 : (0 : Int) ≤ (k : Int) := by omega
      have k1 : (k : Int) < (X.length : Int) := by omega
      have kc : (k : Int) ≤ (c : Int) := by omega
      have hx0 := HX.out x (List.mem_of_getElem? hx)
      have HQ := hid hx
      clear hx
      obtain ⟨ox, ok, oi⟩ := x
      simp only at d1 d2 d3 hx0
      obtain ⟨t, rfl⟩ : ∃ t : Nat, ox = (t : Int) := ⟨ox.toNat, by omega⟩
      have t0 : (0 : Int) ≤ (t : Int) := by omega
      have t1 : (t : Int) < 12 := by omega
      have t12 : t < 12 := by omega
      clear hx0
      obtain ⟨wk, hwk⟩ : ∃ wk, wk = wr := ⟨_, rfl⟩
      rw [← hwk] at d1 d2 d3 hA ⊢
      clear hwk
      obtain ⟨M, hM⟩ : ∃ M, M = wk.heap.size := ⟨_, rfl⟩
      have hMw : w.heap.size + 1 < M := by rw [hM]; exact hA.out.arr.lt
      have A0 : ∀ T, Hid (ArrAt (wk.alloc (.cells #[.int .i64 (t : Int), .int .i64 ok, .int .i64 oi] T)) M #[.int .i64 (t : Int), .int .i64 ok, .int .i64 oi] ∧ AhAt w (wk.alloc (.cells #[.int .i64 (t : Int), .int .i64 ok, .int .i64 oi] T)) (Rn.aheadTo X k 0)) := fun T => ⟨by rw [hM]; exact ArrAt.new wk _ T, hA.out.below (bx _ _)⟩
      go_wp2_with fail
      rw [← hM]
      go_loopw [7, 19] (fun _ i wr => ∃ j : Nat, j ≤ k ∧ i = .int .i64 (j : Int) ∧ Hid (ArrAt wr M #[.int .i64 (t : Int), .int .i64 ok, .int .i64 oi] ∧ AhAt w wr (Rn.aheadTo X k j))) (fun _ i _ => k - (intOf i).toNat)
      case atStart => exact ⟨0, Nat.zero_le _, rfl, A0 _⟩
      case round =>
        clear A0 d1 d2 d3 hA hM
        obtain ⟨j, hj, rfl, hA⟩ := hrel
        by_cases hjk : j < k
        · obtain ⟨y, hy⟩ : ∃ y, X[j]? = some y := ⟨_, List.getElem?_eq_getElem (by omega)⟩
          obtain ⟨b', o', e, d1, d2, d3⟩ := (H.out.below hA.out.2.bel) j y hy
          injection e with e
          injection e with e1 e2
          subst e1; subst e2
          have j0 : (0 : Int) ≤ (j : Int) := by omega
          have j1 : (j : Int) < (k : Int) := by omega
          have jl : (j : Int) < (X.length : Int) := by omega
          have hy0 := HX.out y (List.mem_of_getElem? hy)
          have HT := hid (fun s t hs ht hc => @aheadTo_hit X k j y _ hjk hy HQ.out s t hs ht hc)
          have HM := hid (fun hc => @aheadTo_miss X k j y _ hjk hy HQ.out hc)
          clear hy
          obtain ⟨yx, yk, yi⟩ := y
          simp only at d1 d2 d3 hy0 HT
          obtain ⟨s, rfl⟩ : ∃ s : Nat, yx = (s : Int) := ⟨yx.toNat, by omega⟩
          have s0 : (0 : Int) ≤ (s : Int) := by omega
          have s1 : (s : Int) < 12 := by omega
          have s12 : s < 12 := by omega
          have HT := hid (fun hc => HT.out s t rfl rfl hc)
          clear hy0
          have KC := hid fun W => KC.out W ⟨(s : Int), yk, yi⟩ ⟨(t : Int), ok, oi⟩
          obtain ⟨cl, hcl⟩ : ∃ cl, cl = Rn.clash ⟨(s : Int), yk, yi⟩ ⟨(t : Int), ok, oi⟩ := ⟨_, rfl⟩
          rw [← hcl] at KC HT HM
          clear hcl
          simp only at KC
          obtain ⟨R, hR⟩ : ∃ R, R = Rn.aheadTo X k j := ⟨_, rfl⟩
          rw [← hR] at hA HT HM
          clear hR
          obtain ⟨P, hP⟩ : ∃ P, P = wr.heap.size := ⟨_, rfl⟩
          have hPw : M < P := by rw [hP]; exact hA.out.1.lt
          have A1 : ∀ T, Hid (ArrAt (wr.alloc (.cells #[.int .i64 (s : Int), .int .i64 yk, .int .i64 yi] T)) M #[.int .i64 (t : Int), .int .i64 ok, .int .i64 oi] ∧ ArrAt (wr.alloc (.cells #[.int .i64 (s : Int), .int .i64 yk, .int .i64 yi] T)) P #[.int .i64 (s : Int), .int .i64 yk, .int .i64 yi] ∧ AhAt w (wr.alloc (.cells #[.int .i64 (s : Int), .int .i64 yk, .int .i64 yi] T)) R) := fun T => ⟨hA.out.1.below (bx _ _), by rw [hP]; exact ArrAt.new wr _ T, hA.out.2.below (bx _ _)⟩
          have u0 : ∀ T, (wr.alloc (.cells #[.int .i64 (s : Int), .int .i64 yk, .int .i64 yi] T)).cell? ⟨M, 0, none⟩ = some (.int .i64 (t : Int)) := fun T => (A1 T).out.1.cell rfl
          have u1 : ∀ T, (wr.alloc (.cells #[.int .i64 (s : Int), .int .i64 yk, .int .i64 yi] T)).cell? ⟨M, 1, none⟩ = some (.int .i64 ok) := fun T => (A1 T).out.1.cell rfl
          have u2 : ∀ T, (wr.alloc (.cells #[.int .i64 (s : Int), .int .i64 yk, .int .i64 yi] T)).cell? ⟨M, 2, none⟩ = some (.int .i64 oi) := fun T => (A1 T).out.1.cell rfl
          go_wp2_with fail
          rw [← hP]
          refine (KC.out _).mono ?_
          rintro r w3 ⟨rfl, hb3⟩
          have A3 : Hid (ArrAt w3 M #[.int .i64 (t : Int), .int .i64 ok, .int .i64 oi] ∧ ArrAt w3 P #[.int .i64 (s : Int), .int .i64 yk, .int .i64 yi] ∧ AhAt w w3 R) := ⟨(A1 _).out.1.below hb3, (A1 _).out.2.1.below hb3, (A1 _).out.2.2.below hb3⟩
          clear A1 hb3 u0 u1 u2 d1 d2 d3 hA KC hP
          cases cl with
          | false =>
            have HM2 := hid (HM.out rfl)
            have hF : Hid (ArrAt w3 M #[.int .i64 (t : Int), .int .i64 ok, .int .i64 oi] ∧ AhAt w w3 (Rn.aheadTo X k (j + 1))) := ⟨A3.out.1, by rw [HM2.out]; exact A3.out.2.2⟩
            clear HM HT HM2 A3
            go_wp2_with fail
            go_roundw
            case rel => first
              | exact ⟨j + 1, by omega, by go_num, hF⟩
              | ((repeat apply Exists.intro); exact ⟨⟨j + 1, by omega, by go_num, hF⟩, rfl⟩)
            case measure => simp [intOf]; omega
          | true =>
            have HT2 := hid (HT.out rfl)
            have hF : Hid (ArrAt (w3.setCell ⟨w.heap.size + 1, s * 12 + t, none⟩ (.bool true)) M #[.int .i64 (t : Int), .int .i64 ok, .int .i64 oi] ∧ AhAt w (w3.setCell ⟨w.heap.size + 1, s * 12 + t, none⟩ (.bool true)) (Rn.aheadTo X k (j + 1))) := ⟨A3.out.1.apart (by omega) _ _, by rw [HT2.out]; exact A3.out.2.2.lay s12 t12 true⟩
            have f0 := A3.out.1.cell (j := 0) (v := .int .i64 (t : Int)) rfl
            have f1 := A3.out.2.1.cell (j := 0) (v := .int .i64 (s : Int)) rfl
            have f2 := A3.out.2.2.arr.cell (pA_at R s12 t12)
            have f3 := A3.out.2.2.arr.fz (s * 12 + t)
            clear HM HT HT2 A3
            go_wp2_with fail
            go_region
            all_goals
              go_wp2_with fail
              exact ⟨⟨j + 1, by omega, by go_num, hF.out.1.drew, hF.out.2.below (Below.refl _ _).drew⟩, by simp [intOf]; omega⟩
        · obtain rfl : j = k := by omega
          have hF : Hid (AhAt w wr (Rn.aheadTo X (j + 1) 0)) := by
            have e : Rn.aheadTo X j j = Rn.aheadTo X (j + 1) 0 := by funext a b; exact Rn.aheadTo_round X j a b
            rw [← e]; exact hA.out.2
          have j3 : decide ((j : Int) < (j : Int)) = false := by simp
          clear hA
          go_wp2_with fail
          go_roundw
          case rel => first
            | exact ⟨j + 1, by omega, by go_num, hF⟩
            | ((repeat apply Exists.intro); exact ⟨⟨j + 1, by omega, by go_num, hF⟩, rfl⟩)
          case measure => simp [intOf]; omega
    · obtain rfl : k = X.length := by omega
      have e : Rn.aheadTo X X.length 0 = Rn.ahead X := by funext a b; exact Rn.aheadTo_end X a b
      rw [e] at hA
      have hl1 := run_loadP hA.out.arr
      have hs1 := run_storeP (R := Rn.ahead X) hA.out.res
      have F1 : Hid (ArrAt (wr.setRow w.heap.size (pA (Rn.ahead X))) w.heap.size (pA (Rn.ahead X))) := hA.out.res.row _
      have F2 : Hid (Below w.heap.size w (wr.setRow w.heap.size (pA (Rn.ahead X)))) := Below.row hA.out.bel (Nat.le_refl _) _
      have j3 : decide ((X.length : Int) < (X.length : Int)) = false := by simp
      clear hA e
      go_wp2_with fail
      exact bodyPost_ret (F1.out.resultP rfl rfl) rfl ⟨rfl, F2.out⟩
end Go.Proofs.Ytlalpahfoafhoab.PRun
