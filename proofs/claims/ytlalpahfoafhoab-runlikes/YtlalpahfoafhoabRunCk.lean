/- run.Check, walked: it answers what the plain function says, and nothing that was there has turned. Conditions: the operations lie where their slice says. -/
import Derived.Test.YtlalpahfoafhoabRunOps
namespace Go.Proofs.Ytlalpahfoafhoab.PRun
open Go Go.RowKit PPool PGraph
set_option maxRecDepth 100000

attribute [local go_sem ↓] loadE_pre storeE_pre

theorem hs_le {l k : Nat} (h : ¬ 200 < l) (hk : k ≤ l) : k ≤ 200 := by omega

set_option maxHeartbeats 2000000 in
theorem check_any (w : World) (a : Option Addr) (c : Nat) (X : List Rn.Op) (h : OpAt w a X) (hl : X.length ≤ 9223372036854775807) :
    Calls Try.prog 34 #[.slice a X.length c] w fun e w' => e = .returned (.int .i64 (Rn.check X)) ∧ Below w.heap.size w w' := by
  obtain ⟨Y, hY⟩ : ∃ Y, Y = Rn.check X := ⟨_, rfl⟩
  rw [← hY]
  by_cases h3 : 200 < X.length
  · have HY := hid (hY.trans (Rn.check_large h3))
    have h3' : (200 : Int) < (X.length : Int) := by omega
    clear hY h
    go_enter Try.func34, Try.ntmps34
    go_wp2_with fail
    go_ret
    exact ⟨by rw [HY.out]; rfl, Below.refl _ _⟩
  have h3' : ¬ (200 : Int) < (X.length : Int) := by omega
  have HY := hid hY
  have H3 := hid h3
  have H := hid h
  have hz := (zero_of_info ends_info).1
  have KB := hid fun W E o h0 h1 => behind_any W E o h0 h1
  have KO := hid fun W E o => checkOp_any W E o
  clear hY h
  have A0 : Hid (ArrAt (w.alloc (.cells (eA fun _ => 0) 135)) w.heap.size (eA (Rn.ends [])) ∧ Below w.heap.size w (w.alloc (.cells (eA fun _ => 0) 135))) := ⟨ArrAt.new w _ _, bx _ _⟩
  go_enter Try.func34, Try.ntmps34
  go_wp2_with fail
  go_loopw [5, 6, 12] (fun _ _ i wr => ∃ k : Nat, k ≤ X.length ∧ i = .int .i64 (k : Int) ∧ Hid (Rn.Fine X k) ∧ Hid (ArrAt wr w.heap.size (eA (Rn.ends (X.take k))) ∧ Below w.heap.size w wr)) (fun _ _ i _ => X.length - (intOf i).toNat)
  case atStart => exact ⟨0, Nat.zero_le _, rfl, Rn.Fine.none X, A0⟩
  case round =>
    clear A0
    obtain ⟨k, hk, rfl, hF, hA⟩ := hrel
    by_cases hlt : k < X.length
    · obtain ⟨x, hx⟩ : ∃ x, X[k]? = some x := ⟨_, List.getElem?_eq_getElem hlt⟩
      obtain ⟨b, o, rfl, d1, d2, d3⟩ := (H.out.below hA.out.2) k x hx
      have k0 : (0 : Int) ≤ (k : Int) := by omega
      have k1 : (k : Int) < (X.length : Int) := by omega
      have HT := hid (ends_take hx)
      have HX := hid hx
      have HB := hid fun W E h0 h1 => KB.out W E x h0 h1
      have HO := hid fun W E => KO.out W E x
      clear hx
      obtain ⟨E, hE⟩ : ∃ E, E = Rn.ends (X.take k) := ⟨_, rfl⟩
      have hop : Hid (opE E x = Rn.opErr (X.take k) x) := by rw [hE]; rfl
      rw [← hE] at HT hA
      clear hE
      have HO := hid (show ∀ W, _ from fun W => HO.out W E)
      have HG : Hid (opE E x = 0 → 0 ≤ x.x ∧ x.x < 12) := fun h => by
        have g := (Rn.opErr_zero.1 (hop.out ▸ h)).1
        exact ⟨g.x0, g.x1⟩
      obtain ⟨v, hv⟩ : ∃ v, v = opE E x := ⟨_, rfl⟩
      rw [← hv] at HO hop HG
      clear hv
      obtain ⟨E', hE'⟩ : ∃ E', E' = fun t => Rn.fin (E t) x t := ⟨_, rfl⟩
      have HB := hid (show ∀ W h0 h1, _ from fun W h0 h1 => HB.out W E h0 h1)
      rw [← hE'] at HT HB
      clear hE'
      have hbad : Hid (v ≠ 0 → Y = v) := fun h => by rw [HY.out, Rn.check_bad H3.out hF.out HX.out (by rw [← hop.out]; exact h), hop.out]
      have hgood : Hid (v = 0 → Rn.Fine X (k + 1)) := fun h => hF.out.next HX.out (by rw [← hop.out]; exact h)
      clear hop HX
      obtain ⟨ox, ok, oi⟩ := x
      simp only at d1 d2 d3 HG
      have hl1 : ∀ o : Obj, (loadE (.pointer (some ⟨w.heap.size, 0, none⟩))).run Try.prog (wr.alloc o) = .ok (.agg (eA E)) (wr.alloc o) := fun o => run_loadE (hA.out.1.below (bx _ _))
      have hsz := hA.out.2.size
      go_wp2_with fail
      refine (HO.out _).mono ?_
      rintro r w3 ⟨rfl, hb3⟩
      obtain ⟨e0, e1, e2⟩ := box3 hb3
      have hb3 := below_tr (bx _ _) hb3
      have A3 : Hid (ArrAt w3 w.heap.size (eA E) ∧ Below w.heap.size w w3) := ⟨hA.out.1.below hb3, below_tr hA.out.2 hb3⟩
      have hl3 := run_loadE A3.out.1
      clear hb3 hl1 d1 d2 d3 hA HO
      by_cases hv : v = 0
      · have hF2 := hid (hgood.out hv)
        have hg := HG.out hv
        have HB := hid fun W => HB.out W hg.1 hg.2
        subst hv
        clear hgood hbad hF HG
        go_wp2_with fail
        refine (HB.out _).mono ?_
        rintro r w4 ⟨rfl, hb4⟩
        have A4 : Hid (ArrAt w4 w.heap.size (eA E) ∧ Below w.heap.size w w4) := ⟨A3.out.1.below hb4, below_tr A3.out.2 hb4⟩
        have hs := run_storeE (E := E') A4.out.1
        have A5 : Hid (ArrAt (w4.setRow w.heap.size (eA E')) w.heap.size (eA (Rn.ends (X.take (k + 1)))) ∧ Below w.heap.size w (w4.setRow w.heap.size (eA E'))) :=
          ⟨by rw [HT.out]; exact A4.out.1.row _, Below.row A4.out.2 (Nat.le_refl _) _⟩
        clear A4 A3 hb4 HT HB hl3 e0 e1 e2
        go_wp2_with fail
        go_roundw
        case rel => exact ⟨k + 1, by omega, by go_num, hF2, A5⟩
        case measure => simp [intOf]; omega
      · have HF := hid (hbad.out hv)
        have hv0 : (v != 0) = true := by simpa using hv
        clear hgood hbad hF HG hv
        go_wp2_with fail
        go_ret
        exact ⟨by rw [HF.out]; rfl, A3.out.2⟩
    · obtain rfl : k = X.length := by omega
      have HF : Hid (Y = 0) := HY.out.trans (Rn.check_good H3.out hF.out)
      have j3 : decide ((X.length : Int) < (X.length : Int)) = false := by simp
      clear hF HY
      go_wp2_with fail
      go_ret
      exact ⟨by rw [HF.out]; rfl, hA.out.2⟩
end Go.Proofs.Ytlalpahfoafhoab.PRun
