/- lock.areRight and allFit, walked: each answers what the plain words say, and nothing that was there has turned. Conditions: the locks lie where their slice says; lengths that an int holds. -/
import Derived.Test.YtjoaedkgjnchoanLockArr
import Derived.Test.YtjoaedkgjnchoanLockMod
namespace Go.Proofs.Ytjoaedkgjnchoan.PLock
open Go Go.RowKit PPool
set_option maxRecDepth 100000

/-- The first k are right. -/
theorem rights_next {L : List Lk.Lo} {k : Nat} {x : Lk.Lo} (hx : L[k]? = some x) : Lk.Rights (L.take (k + 1)) ↔ Lk.Rights (L.take k) ∧ (Lk.tx x.x = true ∧ Lk.mode x.m = true) ∧ Lk.has (L.take k) x.x = false := by
  obtain ⟨h1, h2⟩ := List.getElem?_eq_some_iff.1 hx
  rw [List.take_succ_eq_append_getElem h1, h2, Lk.tx_iff, Lk.mode_iff, Lk.has_not]
  constructor
  · intro h
    have hp := List.pairwise_append.1 h.one
    refine ⟨⟨fun l hl => h.lo l (List.mem_append_left _ hl), hp.1⟩, ?_, fun l hl => hp.2.2 l hl x (by simp)⟩
    have := h.lo x (by simp)
    omega
  · rintro ⟨h, hb, hn⟩
    refine ⟨fun l hl => ?_, List.pairwise_append.2 ⟨h.one, List.pairwise_singleton _ _, fun a ha b hb => ?_⟩⟩
    · rcases List.mem_append.1 hl with hl | hl
      · exact h.lo l hl
      · rw [List.mem_singleton] at hl
        subst hl
        omega
    · rw [List.mem_singleton] at hb
      subst hb
      exact hn a ha
theorem rights_not {L : List Lk.Lo} {k : Nat} (h : ¬ Lk.Rights (L.take k)) : ¬ Lk.Rights L := fun g => h (g.sub (List.take_sublist _ _))
theorem hasN_next {L : List Lk.Lo} {k n : Nat} {x : Lk.Lo} (hx : L[k]? = some x) (hn : x.x = (n : Int)) : (fun s : Nat => if s = n then true else Lk.has (L.take k) s) = fun s : Nat => Lk.has (L.take (k + 1)) s := by
  funext s
  obtain ⟨h1, h2⟩ := List.getElem?_eq_some_iff.1 hx
  unfold Lk.has
  rw [List.take_succ_eq_append_getElem h1, List.any_append, h2, List.any_cons, List.any_nil, Bool.or_false, hn]
  by_cases e : s = n
  · subst e; simp
  · rw [if_neg e]
    have : decide ((n : Int) = (s : Int)) = false := by simp; omega
    simp [this]

set_option maxHeartbeats 2000000 in
theorem areRight_any (w : World) (a : Option Addr) (c : Nat) (L : List Lk.Lo) (h : LkAt w a L) (hl : L.length ≤ 9223372036854775807) :
    Calls Try.prog 79 #[.slice a L.length c] w fun e w' => e = .returned (.bool (decide (Lk.Rights L))) ∧ Below w.heap.size w w' := by
  obtain ⟨Y, hY⟩ : ∃ Y, Y = decide (Lk.Rights L) := ⟨_, rfl⟩
  rw [← hY]
  have HY := hid hY
  have H := hid h
  have KT := hid fun W t => isTx_any W t
  have KM := hid fun W t => isMode_any W t
  have hz := (zero_of_info bools_info).1
  clear hY h
  go_enter Try.func79, Try.ntmps79
  have A0 : ∀ T, Hid (ArrAt (w.alloc (.cells (bA fun _ => false) T)) w.heap.size (bA fun s : Nat => Lk.has (L.take 0) s) ∧ Below w.heap.size w (w.alloc (.cells (bA fun _ => false) T))) := fun T => ⟨ArrAt.new w _ _, bx _ _⟩
  go_wp2_with fail
  go_loopw [8] (fun i wr => ∃ k : Nat, k ≤ L.length ∧ i = .int .i64 (k : Int) ∧ Hid (Lk.Rights (L.take k)) ∧ Hid (ArrAt wr w.heap.size (bA fun s : Nat => Lk.has (L.take k) s) ∧ Below w.heap.size w wr)) (fun i _ => L.length - (intOf i).toNat)
  case atStart => exact ⟨0, Nat.zero_le _, rfl, ⟨fun l hl => by simp at hl, List.Pairwise.nil⟩, A0 _⟩
  case round =>
    clear A0
    obtain ⟨k, hk, rfl, hR, hA⟩ := hrel
    by_cases hlt : k < L.length
    · obtain ⟨x, hx⟩ : ∃ x, L[k]? = some x := ⟨_, List.getElem?_eq_getElem hlt⟩
      obtain ⟨b, o, rfl, d1, d2⟩ := (H.out.below hA.out.2) k x hx
      have k0 : (0 : Int) ≤ (k : Int) := by omega
      have k1 : (k : Int) < (L.length : Int) := by omega
      have HX := hid hx
      have HN := hid (rights_next hx)
      clear hx
      obtain ⟨xx, xm⟩ := x
      simp only at d1 d2 HN
      have A3 : Hid (ArrAt (wr.alloc (.cells #[.int .i64 xx, .int .i64 xm] 62)) w.heap.size (bA fun s : Nat => Lk.has (L.take k) s) ∧ Below w.heap.size w (wr.alloc (.cells #[.int .i64 xx, .int .i64 xm] 62))) := ⟨hA.out.1.below (bx _ _), below_tr hA.out.2 (bx _ _)⟩
      have K1 := hid (KT.out (wr.alloc (.cells #[.int .i64 xx, .int .i64 xm] 62)) xx)
      have K2 := hid (KM.out (wr.alloc (.cells #[.int .i64 xx, .int .i64 xm] 62)) xm)
      clear hA
      have bad : Hid (¬ ((Lk.tx xx = true ∧ Lk.mode xm = true) ∧ Lk.has (L.take k) xx = false) → Y = false) := fun h => by
        rw [HY.out, decide_eq_false_iff_not]
        exact rights_not (k := k + 1) (fun g => h (HN.out.1 g).2)
      cases ht : Lk.tx xx with
      | false =>
        have HF := hid (bad.out (by rw [ht]; simp))
        rw [ht] at K1
        clear bad HN HX HY hR
        go_wp2_with fail
        refine K1.out.mono ?_
        rintro r w2 ⟨rfl, hw⟩
        obtain rfl := hw.symm
        go_wp2_with fail
        go_ret
        exact ⟨by rw [HF.out]; rfl, A3.out.2⟩
      | true =>
        rw [ht] at K1
        cases hm : Lk.mode xm with
        | false =>
          have HF := hid (bad.out (by rw [hm]; simp))
          rw [hm] at K2
          clear bad HN HX HY hR
          go_wp2_with fail
          refine K1.out.mono ?_
          rintro r w2 ⟨rfl, hw⟩
          obtain rfl := hw.symm
          go_wp2_with fail
          refine K2.out.mono ?_
          rintro r w2 ⟨rfl, hw⟩
          obtain rfl := hw.symm
          go_wp2_with fail
          go_ret
          exact ⟨by rw [HF.out]; rfl, A3.out.2⟩
        | true =>
          rw [hm] at K2
          obtain ⟨n, rfl⟩ : ∃ n : Nat, xx = n := ⟨xx.toNat, by have := Lk.tx_iff.1 ht; omega⟩
          have hn : n < 12 := by have := Lk.tx_iff.1 ht; omega
          have hn0 : (0 : Int) ≤ (n : Int) := by omega
          have hn1 : (n : Int) < 12 := by omega
          have q1 := A3.out.1.cell (bA_at (fun s : Nat => Lk.has (L.take k) s) hn)
          have q2 := A3.out.1.fz n
          cases hh : Lk.has (L.take k) n with
          | true =>
            have HF := hid (bad.out (by rw [hh]; simp))
            simp only [hh] at q1
            clear bad HN HX HY hR ht hm hh
            go_wp2_with fail
            refine K1.out.mono ?_
            rintro r w2 ⟨rfl, hw⟩
            obtain rfl := hw.symm
            go_wp2_with fail
            refine K2.out.mono ?_
            rintro r w2 ⟨rfl, hw⟩
            obtain rfl := hw.symm
            go_wp2_with fail
            go_ret
            exact ⟨by rw [HF.out]; rfl, A3.out.2⟩
          | false =>
            have HR2 : Hid (Lk.Rights (L.take (k + 1))) := HN.out.2 ⟨hR.out, ⟨ht, hm⟩, hh⟩
            simp only [hh] at q1
            have A4 : Hid (ArrAt ((wr.alloc (.cells #[.int .i64 (n : Int), .int .i64 xm] 62)).setCell ⟨w.heap.size, n, none⟩ (.bool true)) w.heap.size (bA fun s : Nat => Lk.has (L.take (k + 1)) s) ∧ Below w.heap.size w ((wr.alloc (.cells #[.int .i64 (n : Int), .int .i64 xm] 62)).setCell ⟨w.heap.size, n, none⟩ (.bool true))) :=
              ⟨by rw [← hasN_next HX.out rfl, ← bA_set]; exact A3.out.1.put _ _, A3.out.2.setCell (p := ⟨w.heap.size, n, none⟩) (Nat.le_refl _) _⟩
            clear bad HN HX hR ht hm hh A3
            go_wp2_with fail
            refine K1.out.mono ?_
            rintro r w2 ⟨rfl, hw⟩
            obtain rfl := hw.symm
            go_wp2_with fail
            refine K2.out.mono ?_
            rintro r w2 ⟨rfl, hw⟩
            obtain rfl := hw.symm
            go_wp2_with fail
            go_roundw
            case rel => exact ⟨k + 1, by omega, by go_num, HR2, A4⟩
            case measure => simp [intOf]; omega
    · obtain rfl : k = L.length := by omega
      have j3 : decide ((L.length : Int) < (L.length : Int)) = false := by simp
      have HK : Hid (Y = true) := by
        show _ = _
        rw [HY.out, decide_eq_true_iff]
        have := hR.out
        rwa [List.take_length] at this
      have hB := hid hA.out.2
      clear hR HY hA
      go_wp2_with fail
      go_ret
      exact ⟨by rw [HK.out]; rfl, hB.out⟩
/-- The first k fit; the k-th fits the first j. -/
theorem fits_next {L : List Lk.Lo} {k : Nat} {x : Lk.Lo} (hx : L[k]? = some x) : Lk.Fits (L.take (k + 1)) ↔ Lk.Fits (L.take k) ∧ ∀ y ∈ L.take k, Lk.fit x.m y.m = true := by
  obtain ⟨h1, h2⟩ := List.getElem?_eq_some_iff.1 hx
  unfold Lk.Fits
  rw [List.take_succ_eq_append_getElem h1, h2, List.pairwise_append]
  constructor
  · rintro ⟨g1, _, g3⟩
    exact ⟨g1, fun y hy => by rw [Lk.fit_comm]; exact g3 y hy x (by simp)⟩
  · rintro ⟨g1, g2⟩
    refine ⟨g1, List.pairwise_singleton _ _, fun a ha b hb => ?_⟩
    rw [List.mem_singleton] at hb
    subst hb
    rw [Lk.fit_comm]
    exact g2 a ha
theorem fits_not {L : List Lk.Lo} {k : Nat} (h : ¬ Lk.Fits (L.take k)) : ¬ Lk.Fits L := fun g => h (g.sub (List.take_sublist _ _))
theorem mem_next {L : List Lk.Lo} {j : Nat} {y : Lk.Lo} {P : Lk.Lo → Prop} (hy : L[j]? = some y) (h : ∀ z ∈ L.take j, P z) (hp : P y) : ∀ z ∈ L.take (j + 1), P z := by
  obtain ⟨h1, h2⟩ := List.getElem?_eq_some_iff.1 hy
  rw [List.take_succ_eq_append_getElem h1, h2]
  intro z hz
  rcases List.mem_append.1 hz with hz | hz
  · exact h z hz
  · rw [List.mem_singleton] at hz
    subst hz; exact hp

set_option maxHeartbeats 2000000 in
theorem allFit_any (w : World) (a : Option Addr) (c : Nat) (L : List Lk.Lo) (h : LkAt w a L) (hl : L.length ≤ 9223372036854775807) (hc : L.length ≤ c) :
    Calls Try.prog 80 #[.slice a L.length c] w fun e w' => e = .returned (.bool (decide (Lk.Fits L))) ∧ Below w.heap.size w w' := by
  obtain ⟨Y, hY⟩ : ∃ Y, Y = decide (Lk.Fits L) := ⟨_, rfl⟩
  rw [← hY]
  have HY := hid hY
  have H := hid h
  have KF := hid fun W x y => fit_any W x y
  clear hY h
  have hc1 : (L.length : Int) ≤ (c : Int) := by omega
  go_enter Try.func80, Try.ntmps80
  go_wp2_with fail
  go_loopw [9] (fun i wr => ∃ k : Nat, k ≤ L.length ∧ i = .int .i64 (k : Int) ∧ Hid (Lk.Fits (L.take k)) ∧ Hid (Below w.heap.size w wr)) (fun i _ => L.length - (intOf i).toNat)
  case atStart => exact ⟨0, Nat.zero_le _, rfl, List.Pairwise.nil, Below.refl _ _⟩
  case round =>
    obtain ⟨k, hk, rfl, hR, hb⟩ := hrel
    by_cases hlt : k < L.length
    · obtain ⟨x, hx⟩ : ∃ x, L[k]? = some x := ⟨_, List.getElem?_eq_getElem hlt⟩
      obtain ⟨b, o, rfl, d1, d2⟩ := (H.out.below hb.out) k x hx
      have k0 : (0 : Int) ≤ (k : Int) := by omega
      have k1 : (k : Int) < (L.length : Int) := by omega
      have k2 : (k : Int) ≤ (c : Int) := by omega
      have k3 : k ≤ L.length := hk
      have HN := hid (fits_next hx)
      clear hx
      obtain ⟨xx, xm⟩ := x
      simp only at d1 d2 HN
      have B3 : Hid (Below w.heap.size w (wr.alloc (.cells #[.int .i64 xx, .int .i64 xm] 62))) := below_tr hb.out (bx _ _)
      obtain ⟨w3, hw3⟩ : ∃ w3, w3 = wr.alloc (.cells #[.int .i64 xx, .int .i64 xm] 62) := ⟨_, rfl⟩
      have C3 : Hid (∀ W, Below w3.heap.size w3 W → W.cell? ⟨wr.heap.size, 1, none⟩ = some (.int .i64 xm)) := fun W hW => (box2 (by rw [hw3] at hW; exact hW)).2
      have st : ∀ T, wr.alloc (.cells #[.int .i64 xx, .int .i64 xm] T) = wr.alloc (.cells #[.int .i64 xx, .int .i64 xm] T) := fun _ => rfl
      rw [← hw3] at B3
      clear hb st
      go_wp2_with fail
      rw [← hw3]
      clear hw3
      go_loopw [18] (fun j wr2 => ∃ q : Nat, q ≤ k ∧ j = .int .i64 (q : Int) ∧ Hid (∀ y ∈ L.take q, Lk.fit xm y.m = true) ∧ Hid (Below w3.heap.size w3 wr2)) (fun j _ => k - (intOf j).toNat)
      case atStart => exact ⟨0, Nat.zero_le _, rfl, fun y hy => by simp at hy, Below.refl _ _⟩
      case round =>
        obtain ⟨q, hq, rfl, hF, hb⟩ := hrel
        have c3 := C3.out _ hb.out
        by_cases hqk : q < k
        · obtain ⟨y, hy⟩ : ∃ y, L[q]? = some y := ⟨_, List.getElem?_eq_getElem (by omega)⟩
          obtain ⟨b', o', e', d1, d2⟩ := (H.out.below (below_tr B3.out hb.out)) q y hy
          injection e' with e'
          injection e' with e1 e2
          subst e1; subst e2
          have q0 : (0 : Int) ≤ (q : Int) := by omega
          have q1 : (q : Int) < (k : Int) := by omega
          have HQ := hid hy
          have HM : Hid (y ∈ L.take k) := by
            have : (L.take k)[q]? = some y := by rw [List.getElem?_take, if_pos hqk]; exact hy
            exact List.mem_of_getElem? this
          clear hy
          obtain ⟨yx, ym⟩ := y
          simp only at d1 d2
          have B5 : Hid (Below w3.heap.size w3 (wr.alloc (.cells #[.int .i64 yx, .int .i64 ym] 62))) := below_tr hb.out (bx _ _)
          have K1 := hid (KF.out (wr.alloc (.cells #[.int .i64 yx, .int .i64 ym] 62)) xm ym)
          have NF : Hid (Lk.fit xm ym = true → ∀ y ∈ L.take (q + 1), Lk.fit xm y.m = true) := fun h => mem_next HQ.out hF.out h
          have NB : Hid (Lk.fit xm ym = false → Y = false) := fun h => by
            rw [HY.out, decide_eq_false_iff_not]
            refine fits_not (k := k + 1) fun g => ?_
            have := (HN.out.1 g).2 _ HM.out
            rw [h] at this
            cases this
          have c4 := keep1 (bx wr (.cells #[.int .i64 yx, .int .i64 ym] 62)) c3
          clear hb hF HQ HM c3
          cases hf : Lk.fit xm ym with
          | true =>
            have NF := hid (NF.out hf)
            rw [hf] at K1
            clear NB hf
            go_wp2_with fail
            refine K1.out.mono ?_
            rintro r w5 ⟨rfl, hw⟩
            obtain rfl := hw.symm
            go_wp2_with fail
            go_roundw
            case rel => first
              | exact ⟨q + 1, by omega, by go_num, NF, B5⟩
              | ((repeat apply Exists.intro); exact ⟨⟨q + 1, by omega, by go_num, NF, B5⟩, rfl⟩)
            case measure => simp [intOf]; omega
          | false =>
            have HF := hid (NB.out hf)
            rw [hf] at K1
            clear NB NF hf HY
            go_wp2_with fail
            refine K1.out.mono ?_
            rintro r w5 ⟨rfl, hw⟩
            obtain rfl := hw.symm
            go_wp2_with fail
            go_ret
            exact ⟨by rw [HF.out]; rfl, below_tr B3.out B5.out⟩
        · obtain rfl : q = k := by omega
          have NR : Hid (Lk.Fits (L.take (q + 1))) := HN.out.2 ⟨hR.out, hF.out⟩
          have NB := hid (below_tr B3.out hb.out)
          have j3 : decide ((q : Int) < (q : Int)) = false := by simp
          clear hF hb HN hR
          go_wp2_with fail
          go_roundw
          case rel => first
            | exact ⟨q + 1, by omega, by go_num, NR, NB⟩
            | ((repeat apply Exists.intro); exact ⟨⟨q + 1, by omega, by go_num, NR, NB⟩, rfl⟩)
          case measure => simp [intOf]; omega
    · obtain rfl : k = L.length := by omega
      have j3 : decide ((L.length : Int) < (L.length : Int)) = false := by simp
      have HK : Hid (Y = true) := by
        show _ = _
        rw [HY.out, decide_eq_true_iff]
        have := hR.out
        rwa [List.take_length] at this
      clear hR HY
      go_wp2_with fail
      go_ret
      exact ⟨by rw [HK.out]; rfl, hb.out⟩
end Go.Proofs.Ytjoaedkgjnchoan.PLock
