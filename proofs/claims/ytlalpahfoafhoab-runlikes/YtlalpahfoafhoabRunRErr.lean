/- quirref.RunErr, walked: it answers what the plain words say, and nothing that was there has turned. Condition: the operations lie where their slice says, the capacity is no less than the length. -/
import Derived.Test.YtlalpahfoafhoabRunRef
import Derived.Deep.CutRange
namespace Go.Proofs.Ytlalpahfoafhoab.PRun
open Go Go.RowKit PPool PGraph
set_option maxRecDepth 100000

/-- Has the transaction an end among the first? -/
def endIn (X : List Rn.Op) (t : Int) (k : Nat) : Bool := (X.take k).any fun p => decide (p.x = t) && decide (2 < p.k)
theorem endIn_next {X : List Rn.Op} {t : Int} {k : Nat} {p : Rn.Op} (hp : X[k]? = some p) : endIn X t (k + 1) = (endIn X t k || (decide (p.x = t) && decide (2 < p.k))) := by
  unfold endIn; rw [Rn.take_snoc hp]; simp
theorem endIn_ends {X : List Rn.Op} {k : Nat} {o : Rn.Op} (h : Rn.Fine X k) (ho : 0 ≤ o.x) : endIn X o.x k = decide (Rn.ends (X.take k) o.x.toNat ≠ 0) := by
  apply Bool.eq_iff_iff.2
  simp only [endIn, List.any_eq_true, Bool.and_eq_true, decide_eq_true_eq]
  constructor
  · rintro ⟨p, hp, h1, h2⟩ he
    have := Rn.ends_zero.1 he p hp (by omega)
    obtain ⟨j, hj⟩ := List.getElem?_of_mem hp
    rw [List.getElem?_take] at hj
    split at hj
    · rename_i hjk
      have g := (Rn.opErr_zero.1 (h j p hjk hj)).1
      have := g.k1
      omega
    · cases hj
  · intro he
    obtain ⟨p, hp, h1, h2, h3⟩ := Rn.ends_mem (c := Rn.ends (X.take k) o.x.toNat) rfl he
    exact ⟨p, hp, by omega, by omega⟩
theorem err_end {X : List Rn.Op} {k : Nat} {o : Rn.Op} (hF : Rn.Fine X k) (h1 : ¬ (o.x < 0 ∨ 11 < o.x ∨ o.i < 0 ∨ 19 < o.i)) (h2 : ¬ (o.k < 1 ∨ 4 < o.k ∨ (2 < o.k ∧ o.i ≠ 0))) : Rn.opErr (X.take k) o = if endIn X o.x k = true then 4 else 0 := by
  have := opE_ok (E := Rn.ends (X.take k)) h1 h2
  rw [opE_ends] at this
  rw [this, endIn_ends hF (by omega)]
  by_cases he : Rn.ends (X.take k) o.x.toNat = 0
  · rw [if_pos he, if_neg (by simp [he])]
  · rw [if_neg he, if_pos (by simp [he])]
theorem endIn_le {X : List Rn.Op} {t : Int} {j k : Nat} (hjk : j ≤ k) (h : endIn X t j = true) : endIn X t k = true := by
  unfold endIn at h ⊢
  rw [List.any_eq_true] at h ⊢
  obtain ⟨p, hp, hh⟩ := h
  exact ⟨p, (List.take_subset_take_left X hjk) hp, hh⟩

set_option maxHeartbeats 8000000 in
theorem rerr_any (w : World) (a : Option Addr) (c : Nat) (X : List Rn.Op) (h : OpAt w a X) (hl : X.length ≤ 9223372036854775807) (hcap : X.length ≤ c) :
    Calls Try.prog 30 #[.slice a X.length c] w fun e w' => e = .returned (.int .i64 (Rn.check X)) ∧ Below w.heap.size w w' := by
  obtain ⟨Y, hY⟩ : ∃ Y, Y = Rn.check X := ⟨_, rfl⟩
  rw [← hY]
  by_cases h3 : 200 < X.length
  · have HY := hid (hY.trans (Rn.check_large h3))
    have h3' : (200 : Int) < (X.length : Int) := by omega
    clear hY h
    go_enter Try.func30, Try.ntmps30
    go_wp2_with fail
    go_ret
    exact ⟨by rw [HY.out]; rfl, Below.refl _ _⟩
  have h3' : ¬ (200 : Int) < (X.length : Int) := by omega
  have HY := hid hY
  have H3 := hid h3
  have H := hid h
  clear hY h
  go_enter Try.func30, Try.ntmps30
  go_wp2_with fail
  go_loopw [3, 4, 6, 12] (fun _ _ _ i wr => ∃ k : Nat, k ≤ X.length ∧ i = .int .i64 (k : Int) ∧ Hid (Rn.Fine X k) ∧ Hid (Below w.heap.size w wr)) (fun _ _ _ i _ => X.length - (intOf i).toNat)
  case atStart => exact ⟨0, Nat.zero_le _, rfl, Rn.Fine.none X, Below.refl _ _⟩
  case round =>
    obtain ⟨k, hk, rfl, hF, hb⟩ := hrel
    by_cases hlt : k < X.length
    · obtain ⟨x, hx⟩ : ∃ x, X[k]? = some x := ⟨_, List.getElem?_eq_getElem hlt⟩
      obtain ⟨b, o, rfl, d1, d2, d3⟩ := (H.out.below hb.out) k x hx
      have k0 : (0 : Int) ≤ (k : Int) := by omega
      have k1 : (k : Int) < (X.length : Int) := by omega
      have kc : (k : Int) ≤ (c : Int) := by omega
      have hbad : Hid (Rn.opErr (X.take k) x ≠ 0 → Y = Rn.opErr (X.take k) x) := fun h => by rw [HY.out, Rn.check_bad H3.out hF.out hx h]
      have hgood : Hid (Rn.opErr (X.take k) x = 0 → Rn.Fine X (k + 1)) := fun h => hF.out.next hx h
      have hB := fun o => hid (below_tr hb.out (bx wr o))
      by_cases h1 : x.x < 0 ∨ 11 < x.x ∨ x.i < 0 ∨ 19 < x.i
      · have HF : Hid (Y = 1) := by
          have e : Rn.opErr (X.take k) x = 1 := opE_arg (E := Rn.ends (X.take k)) h1
          have := hbad.out (by rw [e]; decide)
          rw [e] at this; exact this
        obtain ⟨ox, ok, oi⟩ := x
        simp only at d1 d2 d3 h1
        clear hbad hgood hF hx hb
        by_cases c1 : ox < 0
        · clear h1
          go_wp2_with fail
          go_ret
          exact ⟨by rw [HF.out]; rfl, (hB _).out⟩
        · by_cases c2 : 11 < ox
          · clear h1
            go_wp2_with fail
            go_ret
            exact ⟨by rw [HF.out]; rfl, (hB _).out⟩
          · by_cases c3 : oi < 0
            · clear h1
              go_wp2_with fail
              go_ret
              exact ⟨by rw [HF.out]; rfl, (hB _).out⟩
            · have c4 : 19 < oi := by omega
              clear h1
              go_wp2_with fail
              go_ret
              exact ⟨by rw [HF.out]; rfl, (hB _).out⟩
      have x0 : ¬ x.x < 0 := by omega
      have x1 : ¬ 11 < x.x := by omega
      have i0 : ¬ x.i < 0 := by omega
      have i1 : ¬ 19 < x.i := by omega
      by_cases h2 : x.k < 1 ∨ 4 < x.k ∨ (2 < x.k ∧ x.i ≠ 0)
      · have HF : Hid (Y = 4) := by
          have e : Rn.opErr (X.take k) x = 4 := opE_form (E := Rn.ends (X.take k)) h1 h2
          have := hbad.out (by rw [e]; decide)
          rw [e] at this; exact this
        obtain ⟨ox, ok, oi⟩ := x
        simp only at d1 d2 d3 h2 x0 x1 i0 i1
        clear hbad hgood hF hx hb h1
        by_cases c1 : ok < 1
        · clear h2
          go_wp2_with fail
          go_ret
          exact ⟨by rw [HF.out]; rfl, (hB _).out⟩
        · by_cases c2 : 4 < ok
          · clear h2
            go_wp2_with fail
            go_ret
            exact ⟨by rw [HF.out]; rfl, (hB _).out⟩
          · have c3 : 2 < ok := by omega
            have c4 : (oi != 0) = true := by simp; omega
            clear h2
            go_wp2_with fail
            go_ret
            exact ⟨by rw [HF.out]; rfl, (hB _).out⟩
      have y0 : ¬ x.k < 1 := by omega
      have y1 : ¬ 4 < x.k := by omega
      have HE := hid (err_end hF.out h1 h2)
      have hki : Hid (2 < x.k → x.i = 0) := fun _ => by omega
      have HX := hid hx
      clear hx h1 h2
      obtain ⟨ox, ok, oi⟩ := x
      simp only at d1 d2 d3 x0 x1 i0 i1 y0 y1 hki HE
      obtain ⟨wk, hwk⟩ : ∃ wk, wk = wr := ⟨_, rfl⟩
      rw [← hwk] at d1 d2 d3 hb hB ⊢
      clear hwk
      obtain ⟨M, hM⟩ : ∃ M, M = wk.heap.size := ⟨_, rfl⟩
      have A0 : ∀ T, Hid (ArrAt (wk.alloc (.cells #[.int .i64 ox, .int .i64 ok, .int .i64 oi] T)) M #[.int .i64 ox, .int .i64 ok, .int .i64 oi] ∧ Below w.heap.size w (wk.alloc (.cells #[.int .i64 ox, .int .i64 ok, .int .i64 oi] T))) := fun T => ⟨by rw [hM]; exact ArrAt.new wk _ T, below_tr hb.out (bx _ _)⟩
      obtain ⟨W0, hW0⟩ : ∃ W0, W0 = wk.alloc (.cells #[.int .i64 ox, .int .i64 ok, .int .i64 oi] 129) := ⟨_, rfl⟩
      have A0 : Hid (ArrAt W0 M #[.int .i64 ox, .int .i64 ok, .int .i64 oi] ∧ Below w.heap.size w W0) := by rw [hW0]; exact A0 _
      go_upto_region 8 with fail
      rw [← hM, ← hW0]
      clear hM hW0 hb hB d1 d2 d3
      go_cut [52] from 35 to 52 (fun q wx => q = .bool false ∧ wx = W0)
      case first =>
        have f1 := A0.out.1.cell (j := 1) (v := .int .i64 ok) rfl
        have f2 := A0.out.1.cell (j := 2) (v := .int .i64 oi) rfl
        by_cases c5 : 2 < ok
        · have c6 : (oi != 0) = false := by rw [hki.out c5]; rfl
          go_wp2_with fail
          go_meet
          exact ⟨rfl, rfl⟩
        · go_wp2_with fail
          go_meet
          exact ⟨rfl, rfl⟩
      case rest =>
        obtain ⟨rfl, rfl⟩ := hcut
        go_wp2_with fail
        go_loopw [6, 57] (fun _ i wr => ∃ j : Nat, j ≤ k ∧ i = .int .i64 (j : Int) ∧ Hid (endIn X ox j = false) ∧ Hid (ArrAt wr M #[.int .i64 ox, .int .i64 ok, .int .i64 oi] ∧ Below w.heap.size w wr)) (fun _ i _ => k - (intOf i).toNat)
        case atStart => exact ⟨0, Nat.zero_le _, rfl, rfl, A0⟩
        case round =>
          clear A0
          obtain ⟨j, hj, rfl, hC, hA⟩ := hrel
          by_cases hjk : j < k
          · obtain ⟨y, hy⟩ : ∃ y, X[j]? = some y := ⟨_, List.getElem?_eq_getElem (by omega)⟩
            obtain ⟨b', o', e, d1, d2, d3⟩ := (H.out.below hA.out.2) j y hy
            injection e with e
            injection e with e1 e2
            subst e1; subst e2
            have j0 : (0 : Int) ≤ (j : Int) := by omega
            have j1 : (j : Int) < (k : Int) := by omega
            have jl : (j : Int) < (X.length : Int) := by omega
            have HN := hid (endIn_next (t := ox) hy)
            have HM := hid (@endIn_le X ox (j + 1) k hjk)
            clear hy
            obtain ⟨yx, yk, yi⟩ := y
            simp only at d1 d2 d3 HN
            have u0 : ∀ o, (wr.alloc o).cell? ⟨M, 0, none⟩ = some (.int .i64 ox) := fun o => (hA.out.1.below (bx _ o)).cell rfl
            have A1 : ∀ o, Hid (ArrAt (wr.alloc o) M #[.int .i64 ox, .int .i64 ok, .int .i64 oi] ∧ Below w.heap.size w (wr.alloc o)) := fun o => ⟨hA.out.1.below (bx _ _), below_tr hA.out.2 (bx _ _)⟩
            clear hA
            by_cases c1 : yx = ox
            · have c1B : (yx == ox) = true := by simpa using c1
              by_cases c2 : 2 < yk
              · have HF : Hid (Y = 4) := by
                  have e1 : endIn X ox (j + 1) = true := by rw [HN.out, decide_eq_true c1, decide_eq_true c2]; simp
                  have e2 := HE.out
                  rw [HM.out e1, if_pos rfl] at e2
                  have := hbad.out (by rw [e2]; decide)
                  rw [e2] at this; exact this
                clear HN HM hbad hgood HE hC c1
                go_wp2_with fail
                go_ret
                exact ⟨by rw [HF.out]; rfl, (A1 _).out.2⟩
              · have hC2 : Hid (endIn X ox (j + 1) = false) := by show _ = _; rw [HN.out, hC.out, decide_eq_false c2]; simp
                clear HN HM hC c1
                go_wp2_with fail
                go_roundw
                case rel => first
                  | exact ⟨j + 1, by omega, by go_num, hC2, A1 _⟩
                  | ((repeat apply Exists.intro); exact ⟨⟨j + 1, by omega, by go_num, hC2, A1 _⟩, rfl⟩)
                case measure => simp [intOf]; omega
            · have c1B : (yx == ox) = false := by simpa using c1
              have hC2 : Hid (endIn X ox (j + 1) = false) := by show _ = _; rw [HN.out, hC.out, decide_eq_false c1]; simp
              clear HN HM hC c1
              go_wp2_with fail
              go_roundw
              case rel => first
                | exact ⟨j + 1, by omega, by go_num, hC2, A1 _⟩
                | ((repeat apply Exists.intro); exact ⟨⟨j + 1, by omega, by go_num, hC2, A1 _⟩, rfl⟩)
              case measure => simp [intOf]; omega
          · obtain rfl : j = k := by omega
            have hF2 : Hid (Rn.Fine X (j + 1)) := hgood.out (by rw [HE.out, hC.out]; rfl)
            have j3 : decide ((j : Int) < (j : Int)) = false := by simp
            have hb2 := hid hA.out.2
            clear hC hA hgood hbad HE hF
            go_wp2_with fail
            go_roundw
            case rel => first
              | exact ⟨j + 1, by omega, by go_num, hF2, hb2⟩
              | ((repeat apply Exists.intro); exact ⟨⟨j + 1, by omega, by go_num, hF2, hb2⟩, rfl⟩)
            case measure => simp [intOf]; omega
    · obtain rfl : k = X.length := by omega
      have HF : Hid (Y = 0) := HY.out.trans (Rn.check_good H3.out hF.out)
      have j3 : decide ((X.length : Int) < (X.length : Int)) = false := by simp
      clear hF HY
      go_wp2_with fail
      go_ret
      exact ⟨by rw [HF.out]; rfl, hb.out⟩
end Go.Proofs.Ytlalpahfoafhoab.PRun
