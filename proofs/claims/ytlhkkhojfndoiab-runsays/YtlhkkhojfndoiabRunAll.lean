/- (ends).allCommitted, run.lastOther, run.Check, walked: they answer what the plain functions say, and nothing that was there has turned. Conditions: the operations lie where their slice says; each transaction's number is one of twelve (Check: none). -/
import Derived.Test.YtlhkkhojfndoiabRunOps
namespace Go.Proofs.Ytlhkkhojfndoiab.PRun
open Go Go.RowKit PPool PGraph
set_option maxRecDepth 100000

def allCom (E : Nat → Int) (R : Nat → Bool) (k : Nat) : Bool := (List.range k).all fun t => !R t || decide (E t = 3)
theorem allCom_next (E : Nat → Int) (R : Nat → Bool) (k : Nat) : allCom E R (k + 1) = (allCom E R k && (!R k || decide (E k = 3))) := by simp [allCom, List.range_succ]
theorem allCom_not {E : Nat → Int} {R : Nat → Bool} {k : Nat} (hk : k < 12) (h : R k = true) (he : decide (E k = 3) = false) : allCom E R 12 = false := by
  apply Bool.eq_false_iff.2
  intro ha
  simp only [allCom, List.all_eq_true, List.mem_range] at ha
  have := ha k hk
  rw [h, he] at this
  cases this
theorem run_index_bA (W : World) (R : Nat → Bool) {k : Nat} (hk : k < 12) : (Instr.index 115 (.agg (bA R)) (.int .i64 (k : Int))).run Try.prog W = .ok (.bool (R k)) W := by
  have h0 : (0 : Int) ≤ (k : Int) ∧ (k : Int) < ((12 : Nat) : Int) := by omega
  simp only [Instr.index, asIntOf, Sem.run_bind, Sem.run_pure, Result.andThen_ok, run_underlying Try.underlying115]
  rw [if_pos h0]
  have hs : (sizeOf 4).run Try.prog W = .ok 1 W := by kernel_rfl
  have ha : (isAgg 4).run Try.prog W = .ok false W := by kernel_rfl
  simp only [part, Sem.run_bind, Result.andThen_ok, hs, ha, Int.toNat_natCast, Nat.mul_one]
  simp only [Bool.false_eq_true, if_false, bA_at R hk, Sem.run_pure]

def loadB (v : Value) : Sem Value := Instr.loadAt 115 v
theorem loadB_pre (v : Value) : Instr.loadAt 115 v = loadB v := rfl
theorem run_loadB {W : World} {b o : Nat} {R : Nat → Bool} (h : W.rangeAt b o (bA R).toList) : (loadB (.pointer (some ⟨b, o, none⟩))).run Try.prog W = .ok (.agg (bA R)) W := by
  have := run_loadAt_mid (P := Try.prog) W b o 115 (bA R).toList _ h Try.underlying115 rfl (by rw [Array.length_toList, bA_size]; exact (zero_of_info bools_info).2)
  rwa [Array.toArray_toList] at this
attribute [local go_sem ↓] loadE_pre storeE_pre loadB_pre

set_option maxHeartbeats 1000000 in
theorem allCommitted_any (w : World) (E : Nat → Int) (R : Nat → Bool) :
    Calls Try.prog 66 #[.agg (eA E), .agg (bA R)] w fun e w' => e = .returned (.bool (allCom E R 12)) ∧ Below w.heap.size w w' := by
  obtain ⟨Y, hY⟩ : ∃ Y, Y = allCom E R 12 := ⟨_, rfl⟩
  rw [← hY]
  have HY := hid hY
  clear hY
  have KC := hid fun W t ht => committed_any W E t ht
  obtain ⟨W0, hW0⟩ : ∃ W0, W0 = (w.alloc (.cells (eA E) 120)).alloc (.cells (bA R) 115) := ⟨_, rfl⟩
  have A0 : Hid (ArrAt W0 w.heap.size (eA E) ∧ Below w.heap.size w W0) := by
    subst hW0
    exact ⟨(ArrAt.new w _ _).below (bx _ _), bx2 _ _ _⟩
  have A1 : ArrAt W0 (w.heap.size + 1) (bA R) := by
    subst hW0
    have := ArrAt.new (w.alloc (.cells (eA E) 120)) (bA R) 115
    rwa [show (w.alloc (.cells (eA E) 120)).heap.size = w.heap.size + 1 by simp] at this
  have hlb := run_loadB A1.range
  rw [hW0] at hlb
  clear A1
  go_enter Try.func66, Try.ntmps66
  go_wp2_with fail
  rw [← hW0]
  clear hW0 hlb
  go_loopw [5, 6, 8] (fun a b i wr => ∃ k : Nat, k ≤ 12 ∧ i = .int .i64 (k : Int) ∧ Hid (allCom E R k = true) ∧ Hid (ArrAt wr w.heap.size (eA E) ∧ Below w.heap.size w wr)) (fun _ _ i _ => 12 - (intOf i).toNat)
  case atStart => exact ⟨0, Nat.zero_le _, rfl, rfl, A0⟩
  case round =>
    clear A0
    obtain ⟨k, hk, rfl, hC, hA⟩ := hrel
    by_cases hlt : k < 12
    · have k0 : (0 : Int) ≤ (k : Int) := by omega
      have k1 : (k : Int) < 12 := by omega
      have hix := run_index_bA wr R hlt
      have hl := run_loadE hA.out.1
      have HN := hid (allCom_next E R k)
      have HX := hid (fun h he => allCom_not (E := E) (R := R) hlt h he)
      have HK := hid fun W => KC.out W k hlt
      obtain ⟨r, hr⟩ : ∃ r, r = R k := ⟨_, rfl⟩
      rw [← hr] at hix HN HX
      clear hr
      cases r with
      | false =>
        have HC2 : Hid (allCom E R (k + 1) = true) := by show _ = true; rw [HN.out, hC.out]; rfl
        clear HN HX HK hC
        go_wp2_with fail
        go_roundw
        case rel => exact ⟨k + 1, by omega, by go_num, HC2, hA⟩
        case measure => simp [intOf]; omega
      | true =>
        have HX1 : Hid (decide (E k = 3) = false → allCom E R 12 = false) := fun he => HX.out rfl he
        clear HX
        go_wp2_with fail
        refine (HK.out _).mono ?_
        rintro r w3 ⟨rfl, hb3⟩
        have hA3 : Hid (ArrAt w3 w.heap.size (eA E) ∧ Below w.heap.size w w3) := ⟨hA.out.1.below hb3, below_tr hA.out.2 hb3⟩
        clear hA hb3 hl hix
        cases hd : decide (E k = 3) with
        | false =>
          have HF : Hid (Y = false) := by show Y = false; rw [HY.out]; exact HX1.out hd
          clear HN HX1 HK hC hd
          go_wp2_with fail
          go_ret
          exact ⟨by rw [HF.out]; rfl, hA3.out.2⟩
        | true =>
          have HC2 : Hid (allCom E R (k + 1) = true) := by show _ = true; rw [HN.out, hC.out, hd]; rfl
          clear HN HX1 HK hC hd
          go_wp2_with fail
          go_roundw
          case rel => exact ⟨k + 1, by omega, by go_num, HC2, hA3⟩
          case measure => simp [intOf]; omega
    · obtain rfl : k = 12 := by omega
      have HF : Hid (Y = true) := HY.out.trans hC.out
      clear hC
      go_wp2_with fail
      go_ret
      exact ⟨by rw [HF.out]; rfl, hA.out.2⟩

/-- What lastOther tells. -/
def loV (X : List Rn.Op) (E : Nat → Int) (o : Rn.Op) : Option Int := if Rn.item o then Rn.lastW X E o.i X.length else none
def othB (V : Option Int) (x : Int) : Bool := match V with
  | some t => decide (t ≠ x)
  | none => false
def loB (X : List Rn.Op) (E : Nat → Int) (o : Rn.Op) : Bool := othB (loV X E o) o.x
theorem lastW_hit {X : List Rn.Op} {E : Nat → Int} {it : Int} {k : Nat} {q : Rn.Op} (hq : X[k]? = some q) (h : q.k = 2 ∧ q.i = it ∧ E q.x.toNat ≠ 4) : Rn.lastW X E it (k + 1) = some q.x := by
  simp only [Rn.lastW, hq, if_pos h]
theorem lastW_miss {X : List Rn.Op} {E : Nat → Int} {it : Int} {k : Nat} {q : Rn.Op} (hq : X[k]? = some q) (h : ¬ (q.k = 2 ∧ q.i = it ∧ E q.x.toNat ≠ 4)) : Rn.lastW X E it (k + 1) = Rn.lastW X E it k := by
  simp only [Rn.lastW, hq, if_neg h]

set_option maxHeartbeats 2000000 in
theorem lastOther_any (w : World) (a : Option Addr) (c : Nat) (X : List Rn.Op) (E : Nat → Int) (o : Rn.Op) (h : OpAt w a X) (hl : X.length ≤ 9223372036854775807) (hX : ∀ o ∈ X, 0 ≤ o.x ∧ o.x < 12) :
    Calls Try.prog 67 #[.slice a X.length c, .agg #[.int .i64 o.x, .int .i64 o.k, .int .i64 o.i], .agg (eA E)] w fun e w' => e = .returned (.tuple #[.int .i64 ((loV X E o).getD 0), .bool (loB X E o)]) ∧ Below w.heap.size w w' := by
  obtain ⟨V, hV⟩ : ∃ V, V = loV X E o := ⟨_, rfl⟩
  have HI := hid fun W => item_any W o
  have hB : loB X E o = othB V o.x := by unfold loB; rw [← hV]
  rw [hB, ← hV]
  have HV : Hid (V = if Rn.item o then Rn.lastW X E o.i X.length else none) := hV
  have H := hid h
  have HX := hid hX
  clear hV hB h hX
  obtain ⟨I, hI⟩ : ∃ I, I = Rn.item o := ⟨_, rfl⟩
  rw [← hI] at HI HV
  clear hI
  obtain ⟨ox, ok, oi⟩ := o
  simp only at HI HV
  obtain ⟨W0, hW0⟩ : ∃ W0, W0 = (w.alloc (.cells #[.int .i64 ox, .int .i64 ok, .int .i64 oi] 114)).alloc (.cells (eA E) 120) := ⟨_, rfl⟩
  have A0 : Hid (ArrAt W0 w.heap.size #[.int .i64 ox, .int .i64 ok, .int .i64 oi] ∧ ArrAt W0 (w.heap.size + 1) (eA E) ∧ Below w.heap.size w W0) := by
    subst hW0
    refine ⟨(ArrAt.new w _ _).below (bx _ _), ?_, bx2 _ _ _⟩
    have := ArrAt.new (w.alloc (.cells #[.int .i64 ox, .int .i64 ok, .int .i64 oi] 114)) (eA E) 120
    rwa [show (w.alloc (.cells #[.int .i64 ox, .int .i64 ok, .int .i64 oi] 114)).heap.size = w.heap.size + 1 by simp] at this
  go_enter Try.func67, Try.ntmps67
  go_wp2_with fail
  rw [← hW0]
  refine (HI.out _).mono ?_
  rintro r w1 ⟨rfl, hb1⟩
  have A1 : Hid (ArrAt w1 w.heap.size #[.int .i64 ox, .int .i64 ok, .int .i64 oi] ∧ ArrAt w1 (w.heap.size + 1) (eA E) ∧ Below w.heap.size w w1) := ⟨A0.out.1.below hb1, A0.out.2.1.below hb1, below_tr A0.out.2.2 hb1⟩
  clear A0 hb1 hW0 HI
  cases I with
  | false =>
    have HN : Hid (V = none) := by show V = none; rw [HV.out]; rfl
    go_wp2_with fail
    go_ret2
    exact ⟨by rw [HN.out]; rfl, A1.out.2.2⟩
  | true =>
    have HV : Hid (V = Rn.lastW X E oi X.length) := by show V = _; rw [HV.out]; rfl
    go_wp2_with fail
    go_loopw [8, 9] (fun i b wr => ∃ k : Nat, k ≤ X.length ∧ i = .int .i64 ((k : Int) - 1) ∧ Hid (V = Rn.lastW X E oi k) ∧ Hid (ArrAt wr w.heap.size #[.int .i64 ox, .int .i64 ok, .int .i64 oi] ∧ ArrAt wr (w.heap.size + 1) (eA E) ∧ Below w.heap.size w wr)) (fun i _ _ => (intOf i + 1).toNat)
    case atStart => exact ⟨X.length, Nat.le_refl _, rfl, HV, A1⟩
    case round =>
      clear A1 HV
      obtain ⟨k, hk, rfl, hV, hA⟩ := hrel
      cases k with
      | zero =>
        have HN : Hid (V = none) := hV.out
        have j0 : decide ((0 : Int) ≤ ((0 : Nat) : Int) - 1) = false := by decide
        clear hV
        go_wp2_with fail
        go_ret2
        exact ⟨by rw [HN.out]; rfl, hA.out.2.2⟩
      | succ k =>
        have hk1 : ((k + 1 : Nat) : Int) - 1 = (k : Int) := by omega
        rw [hk1]
        clear hk1
        obtain ⟨q, hq⟩ : ∃ q, X[k]? = some q := ⟨_, List.getElem?_eq_getElem (by omega)⟩
        obtain ⟨b', o', rfl, d1, d2, d3⟩ := (H.out.below hA.out.2.2) k q hq
        have k0 : (0 : Int) ≤ (k : Int) := by omega
        have k1 : (k : Int) < (X.length : Int) := by omega
        have hq0 := HX.out q (List.mem_of_getElem? hq)
        have HH := hid (fun h => lastW_hit (E := E) (it := oi) hq h)
        have HM := hid (fun h => lastW_miss (E := E) (it := oi) hq h)
        clear hq
        have hV : Hid (V = Rn.lastW X E oi (k + 1)) := hV
        obtain ⟨qx, qk, qi⟩ := q
        simp only at d1 d2 d3 hq0 HH HM
        obtain ⟨t, rfl⟩ : ∃ t : Nat, qx = (t : Int) := ⟨qx.toNat, by omega⟩
        have t0 : (0 : Int) ≤ (t : Int) := by omega
        have t1 : (t : Int) < 12 := by omega
        simp only [Int.toNat_natCast] at HH HM
        obtain ⟨d, hd⟩ : ∃ d, d = E t := ⟨_, rfl⟩
        have hat : (eA E)[t]? = some (.int .i64 d) := by rw [hd]; exact eA_at E (by omega)
        rw [← hd] at HH HM
        clear hd hq0
        have e0 : ∀ o : Obj, (wr.alloc o).cell? ⟨w.heap.size, 0, none⟩ = some (.int .i64 ox) := fun o => (hA.out.1.below (bx _ o)).cell rfl
        have e2 : ∀ o : Obj, (wr.alloc o).cell? ⟨w.heap.size, 2, none⟩ = some (.int .i64 oi) := fun o => (hA.out.1.below (bx _ o)).cell rfl
        have e3 : ∀ o : Obj, (wr.alloc o).cell? ⟨w.heap.size + 1, t, none⟩ = some (.int .i64 d) := fun o => (hA.out.2.1.below (bx _ o)).cell hat
        have hA2 : ∀ o : Obj, Hid (ArrAt (wr.alloc o) w.heap.size #[.int .i64 ox, .int .i64 ok, .int .i64 oi] ∧ ArrAt (wr.alloc o) (w.heap.size + 1) (eA E) ∧ Below w.heap.size w (wr.alloc o)) := fun o => ⟨hA.out.1.below (bx _ o), hA.out.2.1.below (bx _ o), below_tr hA.out.2.2 (bx _ o)⟩
        clear hat
        have miss : Hid (¬ (qk = 2 ∧ qi = oi ∧ d ≠ 4) → V = Rn.lastW X E oi k) := fun h => hV.out.trans (HM.out h)
        clear HM
        have step : (k : Int) - 1 = (k : Int) - 1 := rfl
        by_cases c1 : qk = 2
        · subst c1
          by_cases c2 : qi = oi
          · subst c2
            by_cases c3 : d = 4
            · have HV2 : Hid (V = Rn.lastW X E qi k) := miss.out (fun h => h.2.2 c3)
              have c3n : (d != 4) = false := by simpa using c3
              subst c3
              clear HH miss hV
              go_wp2_with fail
              go_roundw
              case rel => exact ⟨k, by omega, by go_num, HV2, hA2 _⟩
              case measure => first | (simp [intOf]; done) | (simp [intOf]; omega)
            · have HV2 : Hid (V = some (t : Int)) := hV.out.trans (HH.out ⟨rfl, rfl, c3⟩)
              have c3n : (d != 4) = true := by simpa using c3
              clear HH miss hV c3
              go_wp2_with fail
              go_region
              all_goals
                go_wp2_with fail
                go_ret2
                exact ⟨by rw [HV2.out]; simp [othB, bne]; rfl, below_tr (hA2 _).out.2.2 (Below.refl _ _).drew⟩
          · have HV2 : Hid (V = Rn.lastW X E oi k) := miss.out (fun h => c2 h.2.1)
            have c2n : (qi == oi) = false := by simpa using c2
            clear HH miss hV c2
            go_wp2_with fail
            go_roundw
            case rel => exact ⟨k, by omega, by go_num, HV2, hA2 _⟩
            case measure => first | (simp [intOf]; done) | (simp [intOf]; omega)
        · have HV2 : Hid (V = Rn.lastW X E oi k) := miss.out (fun h => c1 h.1)
          have c1n : (qk == 2) = false := by simpa using c1
          clear HH miss hV c1
          go_wp2_with fail
          go_roundw
          case rel => exact ⟨k, by omega, by go_num, HV2, hA2 _⟩
          case measure => first | (simp [intOf]; done) | (simp [intOf]; omega)

theorem hs_le {l k : Nat} (h : ¬ 200 < l) (hk : k ≤ l) : k ≤ 200 := by omega

set_option maxHeartbeats 2000000 in
theorem check_any (w : World) (a : Option Addr) (c : Nat) (X : List Rn.Op) (h : OpAt w a X) (hl : X.length ≤ 9223372036854775807) :
    Calls Try.prog 32 #[.slice a X.length c] w fun e w' => e = .returned (.int .i64 (Rn.check X)) ∧ Below w.heap.size w w' := by
  obtain ⟨Y, hY⟩ : ∃ Y, Y = Rn.check X := ⟨_, rfl⟩
  rw [← hY]
  by_cases h3 : 200 < X.length
  · have HY := hid (hY.trans (Rn.check_large h3))
    have h3' : (200 : Int) < (X.length : Int) := by omega
    clear hY h
    go_enter Try.func32, Try.ntmps32
    go_wp2_with fail
    go_ret
    exact ⟨by rw [HY.out]; rfl, Below.refl _ _⟩
  have h3' : ¬ (200 : Int) < (X.length : Int) := by omega
  have HY := hid hY
  have H3 := hid h3
  have H := hid h
  have hz := (zero_of_info ends_info).1
  have KB := hid fun W E o h0 h1 => behind_any W E o h0 h1
  have KO := hid fun W E o => checkOp_any W E o
  clear hY h
  have A0 : Hid (ArrAt (w.alloc (.cells (eA fun _ => 0) 120)) w.heap.size (eA (Rn.ends [])) ∧ Below w.heap.size w (w.alloc (.cells (eA fun _ => 0) 120))) := ⟨ArrAt.new w _ _, bx _ _⟩
  go_enter Try.func32, Try.ntmps32
  go_wp2_with fail
  go_loopw [5, 6, 12] (fun _ _ i wr => ∃ k : Nat, k ≤ X.length ∧ i = .int .i64 (k : Int) ∧ Hid (Rn.Fine X k) ∧ Hid (ArrAt wr w.heap.size (eA (Rn.ends (X.take k))) ∧ Below w.heap.size w wr)) (fun _ _ i _ => X.length - (intOf i).toNat)
  case atStart => exact ⟨0, Nat.zero_le _, rfl, Rn.Fine.none X, A0⟩
  case round =>
    clear A0
    obtain ⟨k, hk, rfl, hF, hA⟩ := hrel
    by_cases hlt : k < X.length
    · obtain ⟨x, hx⟩ : ∃ x, X[k]? = some x := ⟨_, List.getElem?_eq_getElem hlt⟩
      obtain ⟨b, o, rfl, d1, d2, d3⟩ := (H.out.below hA.out.2) k x hx
      have k0 : (0 : Int) ≤ (k : Int) := by omega
      have k1 : (k : Int) < (X.length : Int) := by omega
      have HT := hid (ends_take hx)
      have HX := hid hx
      have HB := hid fun W E h0 h1 => KB.out W E x h0 h1
      have HO := hid fun W E => KO.out W E x
      clear hx
      obtain ⟨E, hE⟩ : ∃ E, E = Rn.ends (X.take k) := ⟨_, rfl⟩
      have hop : Hid (opE E x = Rn.opErr (X.take k) x) := by rw [hE]; rfl
      rw [← hE] at HT hA
      clear hE
      have HO := hid (show ∀ W, _ from fun W => HO.out W E)
      have HG : Hid (opE E x = 0 → 0 ≤ x.x ∧ x.x < 12) := fun h => by
        have g := (Rn.opErr_zero.1 (hop.out ▸ h)).1
        exact ⟨g.x0, g.x1⟩
      obtain ⟨v, hv⟩ : ∃ v, v = opE E x := ⟨_, rfl⟩
      rw [← hv] at HO hop HG
      clear hv
      obtain ⟨E', hE'⟩ : ∃ E', E' = fun t => Rn.fin (E t) x t := ⟨_, rfl⟩
      have HB := hid (show ∀ W h0 h1, _ from fun W h0 h1 => HB.out W E h0 h1)
      rw [← hE'] at HT HB
      clear hE'
      have hbad : Hid (v ≠ 0 → Y = v) := fun h => by rw [HY.out, Rn.check_bad H3.out hF.out HX.out (by rw [← hop.out]; exact h), hop.out]
      have hgood : Hid (v = 0 → Rn.Fine X (k + 1)) := fun h => hF.out.next HX.out (by rw [← hop.out]; exact h)
      clear hop HX
      obtain ⟨ox, ok, oi⟩ := x
      simp only at d1 d2 d3 HG
      have hl1 : ∀ o : Obj, (loadE (.pointer (some ⟨w.heap.size, 0, none⟩))).run Try.prog (wr.alloc o) = .ok (.agg (eA E)) (wr.alloc o) := fun o => run_loadE (hA.out.1.below (bx _ _))
      have hsz := hA.out.2.size
      go_wp2_with fail
      refine (HO.out _).mono ?_
      rintro r w3 ⟨rfl, hb3⟩
      obtain ⟨e0, e1, e2⟩ := box3 hb3
      have hb3 := below_tr (bx _ _) hb3
      have A3 : Hid (ArrAt w3 w.heap.size (eA E) ∧ Below w.heap.size w w3) := ⟨hA.out.1.below hb3, below_tr hA.out.2 hb3⟩
      have hl3 := run_loadE A3.out.1
      clear hb3 hl1 d1 d2 d3 hA HO
      by_cases hv : v = 0
      · have hF2 := hid (hgood.out hv)
        have hg := HG.out hv
        have HB := hid fun W => HB.out W hg.1 hg.2
        subst hv
        clear hgood hbad hF HG
        go_wp2_with fail
        refine (HB.out _).mono ?_
        rintro r w4 ⟨rfl, hb4⟩
        have A4 : Hid (ArrAt w4 w.heap.size (eA E) ∧ Below w.heap.size w w4) := ⟨A3.out.1.below hb4, below_tr A3.out.2 hb4⟩
        have hs := run_storeE (E := E') A4.out.1
        have A5 : Hid (ArrAt (w4.setRow w.heap.size (eA E')) w.heap.size (eA (Rn.ends (X.take (k + 1)))) ∧ Below w.heap.size w (w4.setRow w.heap.size (eA E'))) :=
          ⟨by rw [HT.out]; exact A4.out.1.row _, Below.row A4.out.2 (Nat.le_refl _) _⟩
        clear A4 A3 hb4 HT HB hl3 e0 e1 e2
        go_wp2_with fail
        go_roundw
        case rel => exact ⟨k + 1, by omega, by go_num, hF2, A5⟩
        case measure => simp [intOf]; omega
      · have HF := hid (hbad.out hv)
        have hv0 : (v != 0) = true := by simpa using hv
        clear hgood hbad hF HG hv
        go_wp2_with fail
        go_ret
        exact ⟨by rw [HF.out]; rfl, A3.out.2⟩
    · obtain rfl : k = X.length := by omega
      have HF : Hid (Y = 0) := HY.out.trans (Rn.check_good H3.out hF.out)
      have j3 : decide ((X.length : Int) < (X.length : Int)) = false := by simp
      clear hF HY
      go_wp2_with fail
      go_ret
      exact ⟨by rw [HF.out]; rfl, hA.out.2⟩
end Go.Proofs.Ytlhkkhojfndoiab.PRun
