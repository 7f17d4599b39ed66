/- lock.placeIn, holds, wish, walked: each answers what the plain words say, and nothing that was there has turned. Conditions: the locks lie where their slice says; lengths that an int holds. -/
import Derived.Test.YtjoaedkgjnchoanLockMod
namespace Go.Proofs.Ytjoaedkgjnchoan.PLock
open Go Go.RowKit PPool
set_option maxRecDepth 100000

theorem plI_of {L : List Lk.Lo} {t : Int} {k : Nat} {x : Lk.Lo} (hx : L[k]? = some x) (h : Lk.has (L.take k) t = false) (e : x.x = t) : Lk.plI L t = (k : Int) := by
  obtain ⟨h1, h2⟩ := List.getElem?_eq_some_iff.1 hx
  have hh : Lk.has L t = true := Lk.has_iff.2 ⟨x, List.mem_of_getElem? hx, e⟩
  unfold Lk.plI
  rw [if_pos hh]
  have : Lk.pl L t = k := by
    unfold Lk.pl
    rw [List.findIdx_eq h1]
    refine ⟨by rw [h2]; simpa using e, fun j hj => ?_⟩
    have := Lk.has_not.1 h (L[j]'(by omega)) (by
      have : (L.take k)[j]? = some (L[j]'(by omega)) := by rw [List.getElem?_take, if_pos hj, List.getElem?_eq_getElem (by omega)]
      exact List.mem_of_getElem? this)
    simpa using this
  rw [this]
theorem has_next {L : List Lk.Lo} {t : Int} {k : Nat} {x : Lk.Lo} (hx : L[k]? = some x) : Lk.has (L.take (k + 1)) t = (Lk.has (L.take k) t || decide (x.x = t)) := by
  obtain ⟨h1, h2⟩ := List.getElem?_eq_some_iff.1 hx
  unfold Lk.has
  rw [List.take_succ_eq_append_getElem h1, List.any_append, h2]
  simp

set_option maxHeartbeats 1000000 in
theorem placeIn_any (w : World) (a : Option Addr) (c : Nat) (L : List Lk.Lo) (t : Int) (h : LkAt w a L) (hl : L.length ≤ 9223372036854775807) :
    Calls Try.prog 65 #[.slice a L.length c, .int .i64 t] w fun e w' => e = .returned (.int .i64 (Lk.plI L t)) ∧ Below w.heap.size w w' := by
  obtain ⟨Y, hY⟩ : ∃ Y, Y = Lk.plI L t := ⟨_, rfl⟩
  rw [← hY]
  have HY := hid hY
  have H := hid h
  clear hY h
  go_enter Try.func65, Try.ntmps65
  go_wp2_with fail
  go_loopw [9] (fun i wr => ∃ k : Nat, k ≤ L.length ∧ i = .int .i64 (k : Int) ∧ Hid (Lk.has (L.take k) t = false) ∧ Hid (Below w.heap.size w wr)) (fun i _ => L.length - (intOf i).toNat)
  case atStart => exact ⟨0, Nat.zero_le _, rfl, by show _ = _; rfl, Below.refl _ _⟩
  case round =>
    obtain ⟨k, hk, rfl, hO, hb⟩ := hrel
    by_cases hlt : k < L.length
    · obtain ⟨x, hx⟩ : ∃ x, L[k]? = some x := ⟨_, List.getElem?_eq_getElem hlt⟩
      obtain ⟨b, o, rfl, d1, d2⟩ := (H.out.below hb.out) k x hx
      have k0 : (0 : Int) ≤ (k : Int) := by omega
      have k1 : (k : Int) < (L.length : Int) := by omega
      have HX := hid hx
      clear hx
      obtain ⟨xx, xm⟩ := x
      simp only at d1 d2
      have B3 : Hid (Below w.heap.size w (wr.alloc (.cells #[.int .i64 xx, .int .i64 xm] 62))) := below_tr hb.out (bx _ _)
      by_cases e : xx = t
      · subst e
        have HK := hid (HY.out.trans (plI_of HX.out hO.out rfl))
        clear hO HX HY
        go_wp2_with fail
        go_ret
        exact ⟨by rw [HK.out]; rfl, B3.out⟩
      · have NO : Hid (Lk.has (L.take (k + 1)) t = false) := by show _ = _; rw [has_next HX.out, hO.out]; simpa using e
        have e' : (xx == t) = false := by simpa using e
        clear hO HX
        go_wp2_with fail
        go_roundw
        case rel => exact ⟨k + 1, by omega, by go_num, NO, B3⟩
        case measure => simp [intOf]; omega
    · obtain rfl : k = L.length := by omega
      have j3 : decide ((L.length : Int) < (L.length : Int)) = false := by simp
      have HK : Hid (Y = -1) := by
        have := hO.out
        rw [List.take_length] at this
        show _ = _
        rw [HY.out]
        unfold Lk.plI
        rw [this]
        rfl
      clear hO HY
      go_wp2_with fail
      go_ret
      exact ⟨by rw [HK.out]; rfl, hb.out⟩

theorem plI_has (L : List Lk.Lo) (t : Int) : (Lk.plI L t != -1) = Lk.has L t := by
  unfold Lk.plI
  cases Lk.has L t with
  | true =>
    rw [if_pos rfl]
    simp
  | false => rfl

/-- An item's box. -/
theorem ibox {w : World} {x y z : Value} {T : TypeId} {w1 : World} (hb : Below (w.alloc (.cells #[x, y, z] T)).heap.size (w.alloc (.cells #[x, y, z] T)) w1) :
    w1.cell? ⟨w.heap.size, 0, none⟩ = some x ∧ w1.cell? ⟨w.heap.size, 1, none⟩ = some y ∧ w1.cell? ⟨w.heap.size, 2, none⟩ = some z := by
  have hg : w1.heap[w.heap.size]? = some (.cells #[x, y, z] T (0, 0)) := (hb.block _ (by simp)).trans (heap_alloc_new w _)
  exact ⟨by rw [cell_of_row w1 _ _ _ _ _ hg]; rfl, by rw [cell_of_row w1 _ _ _ _ _ hg]; rfl, by rw [cell_of_row w1 _ _ _ _ _ hg]; rfl⟩

theorem holds_any (w : World) (i : Value) (a : Option Addr) (c : Nat) (L : List Lk.Lo) (vq : Value) (t : Int) (h : LkAt w a L) (hl : L.length ≤ 9223372036854775807) :
    Calls Try.prog 69 #[.agg #[i, .slice a L.length c, vq], .int .i64 t] w fun e w' => e = .returned (.bool (Lk.has L t)) ∧ Below w.heap.size w w' := by
  rw [← plI_has]
  have K := hid fun W hW => placeIn_any W a c L t (h.below hW) hl
  generalize Lk.plI L t = Y at *
  clear h hl
  go_enter Try.func69, Try.ntmps69
  go_wp2_with fail
  refine (K.out _ (bx _ _)).mono ?_
  rintro r w1 ⟨rfl, hb⟩
  have B1 := hid (below_tr (bx _ _) hb)
  clear hb K
  go_wp2_with fail
  go_ret
  exact ⟨rfl, B1.out⟩

/-- What an item's box and a lock's hold. -/
theorem bx2 {w : World} {x y z u v : Value} {T T' : TypeId} {w1 : World} (hb : Below ((w.alloc (.cells #[x, y, z] T)).alloc (.cells #[u, v] T')).heap.size ((w.alloc (.cells #[x, y, z] T)).alloc (.cells #[u, v] T')) w1) :
    w1.cell? ⟨w.heap.size, 0, none⟩ = some x ∧ w1.cell? ⟨w.heap.size, 1, none⟩ = some y ∧ w1.cell? ⟨w.heap.size, 2, none⟩ = some z ∧ w1.cell? ⟨w.heap.size + 1, 0, none⟩ = some u ∧ w1.cell? ⟨w.heap.size + 1, 1, none⟩ = some v := by
  have h2 := box2 hb
  rw [World.size_alloc] at h2
  have hg := ibox (w := w) (w1 := w1) (below_tr (bx _ _) hb)
  exact ⟨hg.1, hg.2.1, hg.2.2, h2.1, h2.2⟩

set_option maxHeartbeats 1000000 in
theorem wish_any (w : World) (i : Value) (a : Option Addr) (c : Nat) (L : List Lk.Lo) (vq : Value) (l : Lk.Lo) (h : LkAt w a L) (hl : L.length ≤ 9223372036854775807) :
    Calls Try.prog 83 #[.agg #[i, .slice a L.length c, vq], .agg #[.int .i64 l.x, .int .i64 l.m]] w fun e w' => e = .returned (.int .i64 (Lk.wish L l)) ∧ Below w.heap.size w w' := by
  obtain ⟨t, m⟩ := l
  simp only
  obtain ⟨Y, hY⟩ : ∃ Y, Y = Lk.wish L ⟨t, m⟩ := ⟨_, rfl⟩
  rw [← hY]
  unfold Lk.wish at hY
  simp only at hY
  have K := hid fun W hW => placeIn_any W a c L t (h.below hW) hl
  have KJ := hid fun W a => join_any W a m
  have h2 : ∀ T T', Below w.heap.size w ((w.alloc (.cells #[i, .slice a L.length c, vq] T)).alloc (.cells #[.int .i64 t, .int .i64 m] T')) := fun T T' => below_tr (bx _ _) (bx _ _)
  have H2 := hid h2
  clear h2
  cases hh : Lk.has L t with
  | false =>
    rw [if_neg (by rw [hh]; simp)] at hY
    have HY := hid hY
    have e : Lk.plI L t = -1 := by unfold Lk.plI; rw [if_neg (by rw [hh]; simp)]
    rw [e] at K
    clear hY e hh h hl
    go_enter Try.func83, Try.ntmps83
    go_wp2_with fail
    refine (K.out _ (H2.out _ _)).mono ?_
    rintro r w1 ⟨rfl, hb⟩
    have B1 := hid (below_tr (H2.out _ _) hb)
    obtain ⟨c0, c1, c2, c3, c4⟩ := bx2 hb
    clear hb K H2
    go_wp2_with fail
    go_ret
    exact ⟨by rw [HY.out]; rfl, B1.out⟩
  | true =>
    rw [if_pos hh] at hY
    have HY := hid hY
    have e : Lk.plI L t = (Lk.pl L t : Int) := by unfold Lk.plI; rw [if_pos hh]
    rw [e] at K
    obtain ⟨k, hk1, hk2, hk3⟩ := Lk.pl_at hh
    have hkl := Lk.pl_lt hh
    rw [hk3] at HY
    have HK := hid hk1
    generalize Lk.pl L t = p at *
    have H := hid h
    have p0 : (0 : Int) ≤ (p : Int) := by omega
    have p1 : (p : Int) < (L.length : Int) := by omega
    have p2 : ((p : Int) == -1) = false := by simp
    clear hY e hh h hl hk1 hk2 hk3
    go_enter Try.func83, Try.ntmps83
    go_wp2_with fail
    refine (K.out _ (H2.out _ _)).mono ?_
    rintro r w1 ⟨rfl, hb⟩
    have B1 := hid (below_tr (H2.out _ _) hb)
    obtain ⟨c0, c1, c2, c3, c4⟩ := bx2 hb
    obtain ⟨b, o, rfl, d1, d2⟩ := (H.out.below B1.out) p k HK.out
    clear hb K H2 H HK
    go_wp2_with fail
    go_quiet ((go_at_call 90; exact Calls.quiet_of_same (KJ.out _ _)))
    go_wp2_with fail
    go_ret
    exact ⟨by rw [HY.out]; rfl, below_drewN B1.out _⟩
end Go.Proofs.Ytjoaedkgjnchoan.PLock
