/- see.abortedIn, see.lastWrite, walked: they answer what the plain words say of the first operations of a run, and nothing that was there has turned. Conditions: the operations lie where their slice says; the run is right. -/
import Derived.Test.YtlalpahfoafhoabSeeMem
namespace Go.Proofs.Ytlalpahfoafhoab.PSee
open Go Go.RowKit PPool PGraph PRun
set_option maxRecDepth 100000

/-- Who has aborted among the first k. -/
def gone (X : List Rn.Op) (k : Nat) (t : Nat) : Bool := decide (Rn.ends (X.take k) t = 4)
theorem gone_start (X : List Rn.Op) : gone X 0 = fun _ => false := by funext t; simp [gone, Rn.ends]
theorem gone_hit {X : List Rn.Op} {k t : Nat} {o : Rn.Op} (ho : X[k]? = some o) (hk : o.k = 4) (hx : o.x = t) : gone X (k + 1) = fun s => if s = t then true else gone X k s := by
  funext s
  unfold gone
  rw [Rn.take_snoc ho, Rn.ends_snoc]
  unfold Rn.fin
  by_cases e : s = t
  · rw [if_pos e, if_pos ⟨.inr hk, by omega⟩, hk]; rfl
  · rw [if_neg e, if_neg (fun h => e (by have := h.2; omega))]
theorem gone_miss {X : List Rn.Op} (hv : Rn.check X = 0) {k : Nat} {o : Rn.Op} (ho : X[k]? = some o) (hk : ¬ o.k = 4) : gone X (k + 1) = gone X k := by
  funext s
  unfold gone
  rw [Rn.take_snoc ho, Rn.ends_snoc]
  unfold Rn.fin
  split
  · rename_i h
    have g := Rn.good_at hv ho
    have hl := Rn.live_at hv ho
    have e : o.x.toNat = s := by have := h.2; have := g.x0; omega
    rw [e] at hl
    rw [hl]
    rcases h.1 with h1 | h1
    · rw [h1]; rfl
    · exact absurd h1 hk
  · rfl
theorem isW_gone (X : List Rn.Op) (j : Nat) (it : Int) (t : Nat) (k i : Int) : isW X j it ⟨(t : Int), k, i⟩ = (decide (k = 2) && decide (i = it) && !gone X j t) := rfl

/-- How all stands while who aborted is gathered. -/
structure GnAt (w W : World) (R : Nat → Bool) : Prop where
  res : ArrAt W w.heap.size (bA fun _ => false)
  arr : ArrAt W (w.heap.size + 1) (bA R)
  bel : Below w.heap.size w W
theorem GnAt.below {w W W' : World} {R : Nat → Bool} (h : GnAt w W R) (hb : Below W.heap.size W W') : GnAt w W' R := ⟨h.res.below hb, h.arr.below hb, below_tr h.bel hb⟩
theorem GnAt.lay {w W : World} {R : Nat → Bool} (h : GnAt w W R) (t : Nat) (v : Bool) : GnAt w (W.setCell ⟨w.heap.size + 1, t, none⟩ (.bool v)) (fun s => if s = t then v else R s) :=
  ⟨h.res.apart (by omega) _ _, by rw [← bA_set R t v]; exact h.arr.put _ _, h.bel.setCell (p := ⟨w.heap.size + 1, t, none⟩) (Nat.le_succ _) _⟩
attribute [local go_sem ↓] loadB_pre storeB_pre

set_option maxHeartbeats 4000000 in
theorem aborted_any (w : World) (a : Option Addr) (c : Nat) (X : List Rn.Op) (j : Nat) (h : OpAt w a X) (hv : Rn.check X = 0) (hj : j ≤ X.length) :
    Calls Try.prog 125 #[.slice a j c] w fun e w' => e = .returned (.agg (bA (gone X j))) ∧ Below w.heap.size w w' := by
  have H := hid h
  have HV := hid hv
  have l200 := (Rn.check_zero hv).1
  have hz := (zero_of_info bools_info).1
  clear h hv
  have A0 : ∀ T1 T2, Hid (GnAt w ((w.alloc (.cells (bA fun _ => false) T1)).alloc (.cells (bA fun _ => false) T2)) (gone X 0)) := fun T1 T2 => by
    rw [gone_start]
    refine ⟨(ArrAt.new w _ _).below (bx _ _), ?_, bx2 _ _ _⟩
    have := ArrAt.new (w.alloc (.cells (bA fun _ => false) T1)) (bA fun _ => false) T2
    rwa [show (w.alloc (.cells (bA fun _ => false) T1)).heap.size = w.heap.size + 1 by simp] at this
  go_enter Try.func125, Try.ntmps125
  go_wp2_with fail
  go_loopw [5, 8] (fun _ i wr => ∃ k : Nat, k ≤ j ∧ i = .int .i64 (k : Int) ∧ Hid (GnAt w wr (gone X k))) (fun _ i _ => j - (intOf i).toNat)
  case atStart => exact ⟨0, Nat.zero_le _, rfl, A0 _ _⟩
  case round =>
    clear A0
    obtain ⟨k, hk, rfl, hA⟩ := hrel
    by_cases hlt : k < j
    · obtain ⟨x, hx⟩ : ∃ x, X[k]? = some x := ⟨_, List.getElem?_eq_getElem (by omega)⟩
      obtain ⟨b, o, rfl, d1, d2, d3⟩ := (H.out.below hA.out.bel) k x hx
      have k0 : (0 : Int) ≤ (k : Int) := by omega
      have k1 : (k : Int) < (j : Int) := by omega
      have g := Rn.good_at HV.out hx
      have g0 := g.x0
      have g1 := g.x1
      have HH := hid (fun t h1 h2 => gone_hit (t := t) hx h1 h2)
      have HM := hid (fun h => gone_miss HV.out hx h)
      clear hx g
      obtain ⟨ox, ok, oi⟩ := x
      simp only at d1 d2 d3 g0 g1 HH HM
      obtain ⟨t, rfl⟩ : ∃ t : Nat, ox = (t : Int) := ⟨ox.toNat, by omega⟩
      have t12 : t < 12 := by omega
      have HH := hid (fun h1 => HH.out t h1 rfl)
      obtain ⟨R, hR⟩ : ∃ R, R = gone X k := ⟨_, rfl⟩
      rw [← hR] at hA HH HM
      clear hR
      have A1 : ∀ o1 : Obj, Hid (GnAt w (wr.alloc o1) R) := fun o1 => hA.out.below (bx _ _)
      have A2 : ∀ o1 : Obj, Hid (GnAt w ((wr.alloc o1).setCell ⟨w.heap.size + 1, t, none⟩ (.bool true)) (fun s => if s = t then true else R s)) := fun o1 => (A1 o1).out.lay t true
      have sp : ∀ o1 : Obj, (wr.alloc o1).cell? ⟨w.heap.size + 1, t, none⟩ = some (.bool (R t)) := fun o1 => (A1 o1).out.arr.cell (bA_at R t12)
      have sf : ∀ o1 : Obj, (wr.alloc o1).frozen? ⟨w.heap.size + 1, t, none⟩ = false := fun o1 => (A1 o1).out.arr.fz _
      clear hA
      by_cases hk4 : ok = 4
      · subst hk4
        have HF : Hid (gone X (k + 1) = fun s => if s = t then true else R s) := HH.out rfl
        clear HH HM A1
        go_wp2_with fail
        go_roundw
        case rel => exact ⟨k + 1, by omega, by go_num, by rw [HF.out]; exact A2 _⟩
        case measure => simp [intOf]; omega
      · have HF : Hid (gone X (k + 1) = R) := HM.out hk4
        have hkB : (ok == 4) = false := by simpa using hk4
        clear HH HM A2 sp sf hk4
        go_wp2_with fail
        go_roundw
        case rel => exact ⟨k + 1, by omega, by go_num, by rw [HF.out]; exact A1 _⟩
        case measure => simp [intOf]; omega
    · obtain rfl : k = j := by omega
      have hl := run_loadB hA.out.arr
      have hs := run_storeB (R := gone X k) hA.out.res
      have hF : Hid (ArrAt (wr.setRow w.heap.size (bA (gone X k))) w.heap.size (bA (gone X k)) ∧ Below w.heap.size w (wr.setRow w.heap.size (bA (gone X k)))) := ⟨hA.out.res.row _, Below.row hA.out.bel (Nat.le_refl _) _⟩
      clear hA
      go_wp2_with fail
      exact bodyPost_ret (ArrAt.result1 hF.out.1 rfl rfl Try.underlying130 rfl (by rw [bA_size]; exact (zero_of_info bools_info).2)) rfl ⟨rfl, hF.out.2⟩

set_option maxHeartbeats 4000000 in
theorem lastWrite_any (w : World) (a : Option Addr) (c : Nat) (X : List Rn.Op) (j : Nat) (it : Int) (h : OpAt w a X) (hv : Rn.check X = 0) (hj : j ≤ X.length) :
    Calls Try.prog 99 #[.slice a j c, .int .i64 it] w fun e w' => e = .returned (.int .i64 (wrN (wrI X j it j))) ∧ Below w.heap.size w w' := by
  obtain ⟨V, hV⟩ : ∃ V, V = wrI X j it j := ⟨_, rfl⟩
  rw [← hV]
  have H := hid h
  have HV := hid hV
  have HC := hid hv
  have l200 := (Rn.check_zero hv).1
  have hz := (zero_of_info bools_info).1
  have KA := hid (aborted_any w a c X j h hv hj)
  obtain ⟨R, hR⟩ : ∃ R, R = gone X j := ⟨_, rfl⟩
  have HW := hid (fun t k i => isW_gone X j it t k i)
  rw [← hR] at KA HW
  clear hV h hv hR
  go_enter Try.func99, Try.ntmps99
  go_wp2_with fail
  refine (KA.out).mono ?_
  rintro r w1 ⟨rfl, hb1⟩
  have B1 := hid hb1
  obtain ⟨N, hN⟩ : ∃ N, N = w1.heap.size := ⟨_, rfl⟩
  have hNw : w.heap.size ≤ N := by rw [hN]; exact hb1.size
  have st1 : ∀ T : TypeId, (storeB (.pointer (some ⟨w1.heap.size, 0, none⟩)) (.agg (bA R))).run Try.prog (w1.alloc (.cells (bA fun _ => false) T)) = .ok () (w1.alloc (.cells (bA R) T)) := fun T => by
    have e := World.setRow_alloc_new w1 (bA fun _ => false) (bA R) T
    rw [← e]
    exact run_storeB (ArrAt.new w1 _ T)
  have A0 : ∀ T, Hid (ArrAt (w1.alloc (.cells (bA R) T)) N (bA R) ∧ Below w.heap.size w (w1.alloc (.cells (bA R) T))) := fun T => ⟨by rw [hN]; exact ArrAt.new w1 _ T, below_tr B1.out (bx _ _)⟩
  clear hb1 B1 KA
  go_wp2_with fail
  rw [← hN]
  clear hN st1
  go_loopw [6, 7] (fun i _ wr => ∃ k : Nat, k ≤ j ∧ i = .int .i64 ((k : Int) - 1) ∧ Hid (V = wrI X j it k) ∧ Hid (ArrAt wr N (bA R) ∧ Below w.heap.size w wr)) (fun i _ _ => (intOf i + 1).toNat)
  case atStart => exact ⟨j, Nat.le_refl _, rfl, HV, A0 _⟩
  case round =>
    clear A0 HV
    obtain ⟨k, hk, rfl, hV, hA⟩ := hrel
    cases k with
    | zero =>
      have HN : Hid (V = none) := hV.out
      have j0 : decide ((0 : Int) ≤ ((0 : Nat) : Int) - 1) = false := by decide
      clear hV
      go_wp2_with fail
      go_ret
      exact ⟨by rw [HN.out]; rfl, hA.out.2⟩
    | succ k =>
      have hk1 : ((k + 1 : Nat) : Int) - 1 = (k : Int) := by omega
      rw [hk1]
      clear hk1
      obtain ⟨q, hq⟩ : ∃ q, X[k]? = some q := ⟨_, List.getElem?_eq_getElem (by omega)⟩
      obtain ⟨b', o', rfl, d1, d2, d3⟩ := (H.out.below hA.out.2) k q hq
      have k0 : (0 : Int) ≤ (k : Int) := by omega
      have k1 : (k : Int) < (j : Int) := by omega
      have g := Rn.good_at HC.out hq
      have g0 := g.x0
      have g1 := g.x1
      have HH := hid (fun h => wrI_hit (j := j) (it := it) hq h)
      have HM := hid (fun h => wrI_miss (j := j) (it := it) hq h)
      have hV : Hid (V = wrI X j it (k + 1)) := hV
      clear hq g
      obtain ⟨qx, qk, qi⟩ := q
      simp only at d1 d2 d3 g0 g1
      obtain ⟨t, rfl⟩ : ∃ t : Nat, qx = (t : Int) := ⟨qx.toNat, by omega⟩
      have t12 : t < 12 := by omega
      have HW := hid (HW.out t qk qi)
      obtain ⟨B, hB⟩ : ∃ B, B = isW X j it ⟨(t : Int), qk, qi⟩ := ⟨_, rfl⟩
      rw [← hB] at HH HM HW
      clear hB
      have e3 : ∀ o1 : Obj, (wr.alloc o1).cell? ⟨N, t, none⟩ = some (.bool (R t)) := fun o1 => (hA.out.1.below (bx _ o1)).cell (bA_at R t12)
      have hA2 : ∀ o1 : Obj, Hid (ArrAt (wr.alloc o1) N (bA R) ∧ Below w.heap.size w (wr.alloc o1)) := fun o1 => ⟨hA.out.1.below (bx _ o1), below_tr hA.out.2 (bx _ o1)⟩
      obtain ⟨d, hd⟩ : ∃ d, d = R t := ⟨_, rfl⟩
      rw [← hd] at e3 HW
      clear hd hA
      have miss : Hid (B = false → V = wrI X j it k) := fun h => hV.out.trans (HM.out h)
      have hitB : Hid (B = true → V = some k) := fun h => hV.out.trans (HH.out h)
      clear HM HH hV
      by_cases c1 : qk = 2
      · subst c1
        by_cases c2 : qi = it
        · subst c2
          cases d with
          | true =>
            have HV2 : Hid (V = wrI X j qi k) := miss.out (by rw [HW.out]; simp)
            clear hitB miss HW
            go_wp2_with fail
            go_roundw
            case rel => exact ⟨k, by omega, by go_num, HV2, hA2 _⟩
            case measure => first | (simp [intOf]; done) | (simp [intOf]; omega)
          | false =>
            have HV2 : Hid (V = some k) := hitB.out (by rw [HW.out]; simp)
            clear hitB miss HW
            go_wp2_with fail
            go_ret
            exact ⟨by rw [HV2.out]; rfl, (hA2 _).out.2⟩
        · have HV2 : Hid (V = wrI X j it k) := miss.out (by rw [HW.out, decide_eq_false c2]; simp)
          have c2n : (qi == it) = false := by simpa using c2
          clear hitB miss HW c2
          go_wp2_with fail
          go_roundw
          case rel => exact ⟨k, by omega, by go_num, HV2, hA2 _⟩
          case measure => first | (simp [intOf]; done) | (simp [intOf]; omega)
      · have HV2 : Hid (V = wrI X j it k) := miss.out (by rw [HW.out, decide_eq_false c1]; simp)
        have c1n : (qk == 2) = false := by simpa using c1
        clear hitB miss HW c1
        go_wp2_with fail
        go_roundw
        case rel => exact ⟨k, by omega, by go_num, HV2, hA2 _⟩
        case measure => first | (simp [intOf]; done) | (simp [intOf]; omega)
end Go.Proofs.Ytlalpahfoafhoab.PSee
