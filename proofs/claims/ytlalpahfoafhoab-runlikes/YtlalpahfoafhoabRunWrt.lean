/- quirref.writer, walked: the place of the last write of an item ahead of a place that is not gone; nothing that was there has turned. Conditions: the run is right, the place lies in it; the capacity is no less than the length. -/
import Derived.Test.YtlalpahfoafhoabRunRef
import Derived.Test.YtlalpahfoafhoabRunWri
import Derived.Deep.CutRange
namespace Go.Proofs.Ytlalpahfoafhoab.PRun
open Go Go.RowKit PPool PGraph
set_option maxRecDepth 100000

/-- The same as the last write's transaction. -/
theorem wrI_last {X : List Rn.Op} {j : Nat} {it : Int} (hj : j ≤ X.length) : ∀ k, k ≤ j → (match wrI X j it k with
    | some q => ∃ o, X[q]? = some o ∧ q < k ∧ Rn.lastW (X.take j) (Rn.ends (X.take j)) it k = some o.x
    | none => Rn.lastW (X.take j) (Rn.ends (X.take j)) it k = none)
  | 0, _ => rfl
  | k + 1, hk => by
    obtain ⟨o, ho⟩ : ∃ o, X[k]? = some o := ⟨_, List.getElem?_eq_getElem (by omega)⟩
    have ho' : (X.take j)[k]? = some o := by rw [List.getElem?_take, if_pos (by omega)]; exact ho
    have ih := wrI_last (it := it) hj k (by omega)
    cases hw : isW X j it o with
    | true =>
      rw [wrI_hit ho hw]
      exact ⟨o, ho, Nat.lt_succ_self _, lastW_hit ho' (isW_iff.1 hw)⟩
    | false =>
      rw [wrI_miss ho hw]
      have e := lastW_miss (E := Rn.ends (X.take j)) (it := it) ho' (fun h => by rw [isW_iff.2 h] at hw; cases hw)
      cases hr : wrI X j it k with
      | none => rw [hr] at ih; simp only at ih ⊢; rw [e]; exact ih
      | some q =>
        rw [hr] at ih
        obtain ⟨o2, h1, h2, h3⟩ := ih
        exact ⟨o2, h1, by omega, by rw [e]; exact h3⟩

set_option maxHeartbeats 4000000 in
theorem writer_any (w : World) (a : Option Addr) (c : Nat) (X : List Rn.Op) (j : Nat) (it : Int) (h : OpAt w a X) (hv : Rn.check X = 0) (hcap : X.length ≤ c) (hj : j ≤ X.length) :
    Calls Try.prog 87 #[.slice a X.length c, .int .i64 (j : Int), .int .i64 it] w fun e w' => e = .returned (.int .i64 (wrN (wrI X j it j))) ∧ Below w.heap.size w w' := by
  obtain ⟨V, hV⟩ : ∃ V, V = wrI X j it j := ⟨_, rfl⟩
  rw [← hV]
  have H := hid h
  have HV := hid hV
  have HC := hid hv
  have l200 := (Rn.check_zero hv).1
  have KH := hid fun W t h => rhas_any W a c (X.take j) t 4 h (by rw [List.length_take]; omega)
  rw [show (X.take j).length = j by rw [List.length_take]; omega] at KH
  clear hV h hv
  go_enter Try.func87, Try.ntmps87
  go_wp2_with fail
  go_loopw [7, 8] (fun i _ wr => ∃ k : Nat, k ≤ j ∧ i = .int .i64 ((k : Int) - 1) ∧ Hid (V = wrI X j it k) ∧ Hid (Below w.heap.size w wr)) (fun i _ _ => (intOf i + 1).toNat)
  case atStart => exact ⟨j, Nat.le_refl _, rfl, HV, Below.refl _ _⟩
  case round =>
    clear HV
    obtain ⟨k, hk, rfl, hV, hb⟩ := hrel
    cases k with
    | zero =>
      have HN : Hid (V = none) := hV.out
      have j0 : decide ((0 : Int) ≤ ((0 : Nat) : Int) - 1) = false := by decide
      clear hV
      go_wp2_with fail
      go_ret
      exact ⟨by rw [HN.out]; rfl, hb.out⟩
    | succ k =>
      have hk1 : ((k + 1 : Nat) : Int) - 1 = (k : Int) := by omega
      rw [hk1]
      clear hk1
      obtain ⟨q, hq⟩ : ∃ q, X[k]? = some q := ⟨_, List.getElem?_eq_getElem (by omega)⟩
      obtain ⟨b', o', rfl, d1, d2, d3⟩ := (H.out.below hb.out) k q hq
      have k0 : (0 : Int) ≤ (k : Int) := by omega
      have k1 : (k : Int) < (X.length : Int) := by omega
      have jc : (j : Int) ≤ (c : Int) := by omega
      have j0 : (0 : Int) ≤ (j : Int) := by omega
      have g := Rn.good_at HC.out hq
      have g0 := g.x0
      have g1 := g.x1
      have HH := hid (fun h => wrI_hit (j := j) (it := it) hq h)
      have HM := hid (fun h => wrI_miss (j := j) (it := it) hq h)
      have hV : Hid (V = wrI X j it (k + 1)) := hV
      clear hq g
      obtain ⟨qx, qk, qi⟩ := q
      simp only at d1 d2 d3 g0 g1
      obtain ⟨t, rfl⟩ : ∃ t : Nat, qx = (t : Int) := ⟨qx.toNat, by omega⟩
      have hme := mem_end HC.out (i := j) (t := t) (by omega) (c := 4) (.inr rfl)
      have KH := hid fun W h => KH.out W (t : Int) h
      have hisW : Hid (isW X j it ⟨(t : Int), qk, qi⟩ = (decide (qk = 2) && decide (qi = it) && !decide ((⟨(t : Int), 4, 0⟩ : Rn.Op) ∈ X.take j))) := by
        show isW X j it ⟨(t : Int), qk, qi⟩ = _
        rw [show ((⟨(t : Int), 4, 0⟩ : Rn.Op)) = ⟨(t : Int), ((4 : Nat) : Int), 0⟩ from rfl, hme]; rfl
      clear hme
      obtain ⟨B, hB⟩ : ∃ B, B = isW X j it ⟨(t : Int), qk, qi⟩ := ⟨_, rfl⟩
      obtain ⟨D, hD⟩ : ∃ D, D = decide ((⟨(t : Int), 4, 0⟩ : Rn.Op) ∈ X.take j) := ⟨_, rfl⟩
      rw [← hB] at HH HM hisW
      rw [← hD] at hisW KH
      clear hB hD g0 g1
      obtain ⟨W0, hW0⟩ : ∃ W0, W0 = wr.alloc (.cells #[.int .i64 (t : Int), .int .i64 qk, .int .i64 qi] 129) := ⟨_, rfl⟩
      have A0 : Hid (ArrAt W0 wr.heap.size #[.int .i64 (t : Int), .int .i64 qk, .int .i64 qi] ∧ Below w.heap.size w W0) := by rw [hW0]; exact ⟨ArrAt.new wr _ _, below_tr hb.out (bx _ _)⟩
      go_upto_region 5 with fail
      rw [← hW0]
      clear hW0 hb d1 d2 d3
      go_cut [36] from 19 to 36 (fun q wx => q = .bool B ∧ Hid (Below w.heap.size w wx))
      case first =>
        have f0 := A0.out.1.cell (j := 0) (v := .int .i64 (t : Int)) rfl
        have f1 := A0.out.1.cell (j := 1) (v := .int .i64 qk) rfl
        have f2 := A0.out.1.cell (j := 2) (v := .int .i64 qi) rfl
        by_cases c1 : qk = 2
        · have c1B : (qk == 2) = true := by simpa using c1
          by_cases c2 : qi = it
          · have c2B : (qi == it) = true := by simpa using c2
            have e : Hid (B = !D) := by show _ = _; rw [hisW.out, decide_eq_true c1, decide_eq_true c2]; simp
            have OP := (H.out.below A0.out.2).take j
            have OP' := OP.drew
            clear c1 c2
            go_region_with ((go_at_call 85; refine (KH.out _ OP').mono ?_; rintro r w3 ⟨rfl, hb3⟩))
            all_goals
              go_wp2_with fail
              go_meet
              exact ⟨by rw [e.out], below_tr A0.out.2.drew hb3⟩
          · have c2B : (qi == it) = false := by simpa using c2
            have e : Hid (B = false) := by show _ = _; rw [hisW.out, decide_eq_false c2]; simp
            clear c1 c2
            go_region
            all_goals
              go_wp2_with fail
              go_meet
              exact ⟨by rw [e.out], A0.out.2.drew⟩
        · have c1B : (qk == 2) = false := by simpa using c1
          have e : Hid (B = false) := by show _ = _; rw [hisW.out, decide_eq_false c1]; simp
          clear c1
          go_region
          all_goals
            go_wp2_with fail
            go_meet
            exact ⟨by rw [e.out], A0.out.2.drew⟩
      case rest =>
        obtain ⟨rfl, hb2⟩ := hcut
        clear A0
        cases B with
        | true =>
          have HF : Hid (V = some k) := hV.out.trans (HH.out rfl)
          clear HH HM hV hisW
          go_wp2_with fail
          go_ret
          exact ⟨by rw [HF.out]; rfl, hb2.out⟩
        | false =>
          have HF : Hid (V = wrI X j it k) := hV.out.trans (HM.out rfl)
          clear HH HM hV hisW
          go_wp2_with fail
          go_roundw
          case rel => first
            | exact ⟨k, by omega, by go_num, HF, hb2⟩
            | ((repeat apply Exists.intro); exact ⟨⟨k, by omega, by go_num, HF, hb2⟩, rfl⟩)
          case measure => first | (simp [intOf]; done) | (simp [intOf]; omega)
end Go.Proofs.Ytlalpahfoafhoab.PRun
