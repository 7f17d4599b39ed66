/- lock.inTheWay and canBeGiven, walked: each answers what the plain words say, and nothing that was there has turned. Conditions: the locks lie where their slice says; how many there are. -/
import Derived.Test.YtjoaedkgjnchoanLockPl
namespace Go.Proofs.Ytjoaedkgjnchoan.PLock
open Go Go.RowKit PPool
set_option maxRecDepth 100000

/-- Who is in the way among the first k. -/
theorem way_next {L : List Lk.Lo} {l x : Lk.Lo} {W : Int} {k : Nat} (hx : L[k]? = some x) : ((L.take (k + 1)).filter fun h => decide (h.x ≠ l.x) && !Lk.fit h.m W).map Lk.Lo.x = ((L.take k).filter fun h => decide (h.x ≠ l.x) && !Lk.fit h.m W).map Lk.Lo.x ++ (if decide (x.x ≠ l.x) && !Lk.fit x.m W then [x.x] else []) := by
  obtain ⟨h1, h2⟩ := List.getElem?_eq_some_iff.1 hx
  rw [List.take_succ_eq_append_getElem h1, List.filter_append, List.map_append, h2]
  congr 1
  cases hb : (decide (x.x ≠ l.x) && !Lk.fit x.m W) with
  | true => rw [List.filter_cons_of_pos (by exact hb), if_pos rfl]; rfl
  | false => rw [List.filter_cons_of_neg (by rw [hb]; simp), if_neg (by simp)]; rfl
def wayTo (L : List Lk.Lo) (t W : Int) (k : Nat) : List Int := ((L.take k).filter fun h => decide (h.x ≠ t) && !Lk.fit h.m W).map Lk.Lo.x
theorem wayTo_next {L : List Lk.Lo} {t W : Int} {k : Nat} {x : Lk.Lo} (hx : L[k]? = some x) : wayTo L t W (k + 1) = wayTo L t W k ++ (if decide (x.x ≠ t) && !Lk.fit x.m W then [x.x] else []) := way_next (l := ⟨t, 0⟩) hx
theorem wayTo_len (L : List Lk.Lo) (t W : Int) (k : Nat) : (wayTo L t W k).length ≤ k := by
  unfold wayTo
  rw [List.length_map]
  exact Nat.le_trans (List.length_filter_le _ _) (by rw [List.length_take]; exact Nat.min_le_left _ _)

set_option maxHeartbeats 2000000 in
theorem inTheWay_any (w : World) (i : Value) (a : Option Addr) (c : Nat) (L : List Lk.Lo) (vq : Value) (l : Lk.Lo) (h : LkAt w a L) (hl : L.length ≤ 2000) :
    Calls Try.prog 75 #[.agg #[i, .slice a L.length c, vq], .agg #[.int .i64 l.x, .int .i64 l.m]] w fun e w' => ∃ v, e = .returned v ∧ OwnInts w' w.heap.size v (Lk.way L l) ∧ Below w.heap.size w w' := by
  have e0 : Lk.way L l = wayTo L l.x (Lk.wish L l) L.length := by unfold wayTo; rw [List.take_length]; rfl
  rw [e0]
  have K := hid fun W hW => wish_any W i a c L vq l (h.below hW) (by omega)
  have KF := hid fun W x y => fit_any W x y
  generalize Lk.wish L l = y at *
  obtain ⟨t, m⟩ := l
  simp only at K ⊢
  have H := hid h
  obtain ⟨N, hN⟩ : ∃ N, N = L.length := ⟨_, rfl⟩
  have HN := hid hN
  have hl3 : (N : Int) ≤ 2000 := by omega
  have hii : ∃ i, Try.prog.info? 3 = some i ∧ i.zero = some (.int .i64 0) ∧ i.size = 1 ∧ i.bytes = 8 := info_parts (by kernel_rfl)
  obtain ⟨ii, g1, g2, g3, g4⟩ := hii
  rw [← hN] at K ⊢
  clear h hl e0 hN
  go_enter Try.func75, Try.ntmps75
  have H2 : ∀ T T', Hid (Below w.heap.size w ((w.alloc (.cells #[i, .slice a N c, vq] T)).alloc (.cells #[.int .i64 t, .int .i64 m] T'))) := fun T T' => below_tr (bx _ _) (bx _ _)
  go_wp2_with fail
  refine (K.out _ (H2 _ _).out).mono ?_
  rintro r w1 ⟨rfl, hb⟩
  have B1 := hid (below_tr (H2 _ _).out hb)
  have C1 := hid (show ∀ W, Below w1.heap.size w1 W → _ from fun W hW => bx2 (below_tr hb hW))
  obtain ⟨c0, c1, c2, c3, c4⟩ := C1.out _ (Below.refl _ _)
  clear hb K H2
  go_wp2_with fail
  go_loopw [6, 15] (fun u j wr => ∃ (k : Nat) (V : Value), k ≤ N ∧ V = u ∧ j = .int .i64 (k : Int) ∧ Hid (OwnInts wr w1.heap.size V (wayTo L t y k)) ∧ Hid (Below w1.heap.size w1 wr)) (fun _ j _ => N - (intOf j).toNat)
  case atStart => exact ⟨0, _, Nat.zero_le _, rfl, rfl, OwnR.nil _ _, Below.refl _ _⟩
  case round =>
    obtain ⟨k, V, hk, rfl, rfl, hO, hb⟩ := hrel
    clear c0 c1 c2 c3 c4
    obtain ⟨c0, c1, c2, c3, c4⟩ := C1.out _ hb.out
    by_cases hlt : k < N
    · obtain ⟨x, hx⟩ : ∃ x, L[k]? = some x := ⟨_, List.getElem?_eq_getElem (by have := HN.out; omega)⟩
      obtain ⟨b, o, rfl, d1, d2⟩ := (H.out.below (below_tr B1.out hb.out)) k x hx
      have k0 : (0 : Int) ≤ (k : Int) := by omega
      have k1 : (k : Int) < (N : Int) := by omega
      have HX := hid (wayTo_next (t := t) (W := y) hx)
      have hlen := wayTo_len L t y k
      clear hx
      obtain ⟨xx, xm⟩ := x
      simp only at d1 d2 HX
      have B3 : Hid (Below w1.heap.size w1 (wr.alloc (.cells #[.int .i64 xx, .int .i64 xm] 62))) := below_tr hb.out (bx _ _)
      have O3 : Hid (OwnInts (wr.alloc (.cells #[.int .i64 xx, .int .i64 xm] 62)) w1.heap.size V (wayTo L t y k)) := hO.out.below (bx _ _)
      have c3 := keep1 (bx wr (.cells #[.int .i64 xx, .int .i64 xm] 62)) c3
      obtain ⟨R, hR⟩ : ∃ R, R = wayTo L t y k := ⟨_, rfl⟩
      rw [← hR] at hlen HX O3
      clear hR hO hb
      by_cases e : xx = t
      · have NX : Hid (wayTo L t y (k + 1) = R) := by show _ = _; rw [HX.out]; simp [e]
        have e' : (xx != t) = false := by simpa using e
        clear HX e
        go_wp2_with fail
        go_roundw
        case rel => exact ⟨k + 1, _, by omega, rfl, by go_num, by rw [NX.out]; exact O3, B3⟩
        case measure => simp [intOf]; omega
      · have e' : (xx != t) = true := by simpa using e
        have KF1 := hid (KF.out (wr.alloc (.cells #[.int .i64 xx, .int .i64 xm] 62)) xm y)
        cases hf : Lk.fit xm y with
        | true =>
          have NX : Hid (wayTo L t y (k + 1) = R) := by show _ = _; rw [HX.out, hf]; simp
          rw [hf] at KF1
          clear HX e hf
          go_wp2_with fail
          refine KF1.out.mono ?_
          rintro r w2 ⟨rfl, hw⟩
          obtain rfl := hw.symm
          go_wp2_with fail
          go_roundw
          case rel => exact ⟨k + 1, _, by omega, rfl, by go_num, by rw [NX.out]; exact O3, B3⟩
          case measure => simp [intOf]; omega
        | false =>
          have NX : Hid (wayTo L t y (k + 1) = R ++ [xx]) := by show _ = _; rw [HX.out, hf]; simp [e]
          rw [hf] at KF1
          have F0 := box2 (w := wr) (x := .int .i64 xx) (y := .int .i64 xm) (T := 62) (Below.refl _ _)
          clear HX e hf c0 c1 c2 c4
          go_wp2_with fail
          refine KF1.out.mono ?_
          rintro r w2 ⟨rfl, hw⟩
          rw [← hw] at O3 B3 F0 c3
          obtain ⟨f0, f1⟩ := F0
          have c1 := (C1.out _ B3.out).2.1
          clear hw
          have O4 : ∀ o, Hid (OwnInts (w2.alloc o) w1.heap.size V R) := fun o => O3.out.below (bx _ _)
          have B4 : ∀ o, Hid (Below w1.heap.size w1 (w2.alloc o)) := fun o => below_tr B3.out (bx _ _)
          go_wp2_with (at_builtin; refine wpList_append_own _ rfl _ _ 68 rfl w1.heap.size 3 ii (.int .i64 0) 1 8 Try.underlying68 g1 g2 g3 g4 rfl (by decide) _ _ _ rfl (O4 _).out ⟨w2.heap.size, 0, none⟩ 1 1 [.int .i64 xx] rfl rfl ?c1 ?c2 ?c3 ?c4 ?c5 ?_)
          case c1 =>
            intro q u hu
            rw [Addr.add_mid]
            exact (cell_of_row _ _ _ _ _ _ (heap_alloc_new w2 _)).trans (by simpa using hu)
          case c2 => intro v hv; rw [List.mem_singleton] at hv; subst hv; rfl
          case c3 => unfold maxLen; omega
          case c4 => omega
          case c5 => have := (B4 (.cells #[.int .i64 xx] 3)).out.size; omega
          intro v' w6 ho6 hg6 hnil6
          have O6 : Hid (OwnInts w6 w1.heap.size v' (wayTo L t y (k + 1))) := by rw [NX.out]; exact OwnR.grows (by simpa using ho6)
          have B6 : Hid (Below w1.heap.size w1 w6) := (B4 _).out.grown hg6 (B4 _).out.size (fun b hb => (((O4 (.cells #[.int .i64 xx] 3)).out).lt b hb).1)
          clear ho6 hg6 hnil6 O4 B4 NX KF1
          go_wp2_with fail
          go_roundw
          case rel => exact ⟨k + 1, _, by omega, rfl, by go_num, O6, B6⟩
          case measure => simp [intOf]; omega
    · obtain rfl : k = N := by omega
      have j3 : decide ((k : Int) < (k : Int)) = false := by simp
      have hO2 := hid (hO.out.lower (base' := w.heap.size) B1.out.size)
      have hB2 := hid (below_tr B1.out hb.out)
      clear hO hb
      go_wp2_with fail
      go_ret
      exact ⟨_, rfl, hO2.out, hB2.out⟩

theorem canBeGiven_any (w : World) (i : Value) (a : Option Addr) (c : Nat) (L : List Lk.Lo) (vq : Value) (l : Lk.Lo) (h : LkAt w a L) (hl : L.length ≤ 2000) :
    Calls Try.prog 68 #[.agg #[i, .slice a L.length c, vq], .agg #[.int .i64 l.x, .int .i64 l.m]] w fun e w' => e = .returned (.bool (Lk.can L l)) ∧ Below w.heap.size w w' := by
  have K := hid fun W hW => inTheWay_any W i a c L vq l (h.below hW) hl
  obtain ⟨Y, hY⟩ : ∃ Y, Y = Lk.can L l := ⟨_, rfl⟩
  rw [← hY]
  rw [Lk.can_way] at hY
  generalize Lk.way L l = R at *
  obtain ⟨t, m⟩ := l
  simp only at K ⊢
  have HY : Hid (Y = ((R.length : Int) == 0)) := by
    show _ = _
    rw [hY]
    cases R with
    | nil => rfl
    | cons x R =>
      symm
      simp
      omega
  clear hY h hl
  have H2 : ∀ T T', Hid (Below w.heap.size w ((w.alloc (.cells #[i, .slice a L.length c, vq] T)).alloc (.cells #[.int .i64 t, .int .i64 m] T'))) := fun T T' => below_tr (bx _ _) (bx _ _)
  go_enter Try.func68, Try.ntmps68
  go_wp2_with fail
  refine (K.out _ (H2 _ _).out).mono ?_
  rintro r w1 ⟨v, rfl, ho, hb⟩
  obtain ⟨a', c', rfl, _⟩ := ho.at_
  have B1 := hid (below_tr (H2 _ _).out hb)
  clear hb K H2 ho
  go_wp2_with fail
  go_ret
  exact ⟨by rw [HY.out]; rfl, B1.out⟩
end Go.Proofs.Ytjoaedkgjnchoan.PLock
