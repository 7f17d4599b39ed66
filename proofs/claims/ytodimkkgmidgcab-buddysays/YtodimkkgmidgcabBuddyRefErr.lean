/- quirref.BuddyErr, walked: it answers what the plain function says, and nothing that was there has turned. Conditions: how many blocks there are. -/
import Derived.Test.YtodimkkgmidgcabBuddyHelp
import Derived.Test.YtodimkkgmidgcabBuddyMade
namespace Go.Proofs.Ytodimkkgmidgcab.PBuddy
open Go Go.RowKit PPool
set_option maxRecDepth 100000

theorem err_tmod {ka p : Nat} : (ka : Int).tmod (p : Int) = ((ka % p : Nat) : Int) := by rw [Int.tmod_eq_emod_of_nonneg (by omega)]; rfl
theorem err_rem {ka p : Nat} : ((((ka % p : Nat) : Int) != 0) = true ↔ ka % p ≠ 0) := by simp; omega
theorem err_tm0 {ka p : Nat} (h : ka % p = 0) : (ka : Int).tmod (p : Int) = 0 := by rw [err_tmod, h]; rfl
theorem err_tm1 {ka p : Nat} (h : ¬ ka % p = 0) : ∃ rr : Nat, (ka : Int).tmod (p : Int) = (rr : Int) ∧ ((rr : Int) != 0) = true := ⟨ka % p, err_tmod, err_rem.2 h⟩
theorem err_ka {ka q : Nat} (h : ¬ (q : Int) ≤ (ka : Int)) (h2 : q ≤ 1024) : (ka : Int) ≤ 1024 := by omega
theorem err_pos {p : Nat} (h : 0 < p) : ¬ (p : Int) = 0 := by omega
theorem err_k {k l : Nat} (h : k < l) : (0 : Int) ≤ (k : Int) ∧ (k : Int) < (l : Int) := ⟨by omega, by omega⟩
theorem err_last {k l : Nat} (h : k ≤ l) (h2 : ¬ k < l) : k = l := by omega
theorem err_nat {x : Int} (h : ¬ x < 0) : ∃ k : Nat, x = k := ⟨x.toNat, by omega⟩
theorem err_le {n k : Nat} (h : ¬ (n : Int) < (k : Int)) : k ≤ n := by omega
theorem err_lt {q k : Nat} (h : ¬ (q : Int) ≤ (k : Int)) : k < q := by omega
theorem err_flt {l : Int} {k : Nat} (h : ¬ (k : Int) ≤ l) : l < (k : Int) := by omega
theorem err_idx {ka p q m : Nat} (g3 : ka + p ≤ q) (q3 : q ≤ 1024) (hm : m < p) : (0 : Int) ≤ (ka : Int) + (m : Int) ∧ (ka : Int) + (m : Int) < (q : Int) ∧ ((ka : Int) + (m : Int)).toNat = ka + m ∧ IntKind.i64.wrap ((ka : Int) + (m : Int)) = (ka : Int) + (m : Int) ∧ (m : Int) < (p : Int) := by
  obtain ⟨i1, i2, i3, i4, _, i6⟩ := inner_num (v := 0) g3 q3 hm (by omega)
  exact ⟨i1, i2, i3, i4, i6⟩

theorem err_mod {ka p ko : Nat} (e : (⟨(ka : Int), (ko : Int)⟩ : Bd.Bk).a % 2 ^ (⟨(ka : Int), (ko : Int)⟩ : Bd.Bk).o.toNat = 0) (hp : p = 2 ^ ko) : ka % p = 0 := by
  have e2 : (ka : Int) % 2 ^ (ko : Int).toNat = 0 := e
  rw [Int.toNat_natCast, ← Bd.cast_pow, ← hp, ← Int.natCast_emod] at e2
  omega

set_option maxHeartbeats 8000000 in
theorem err_any (w : World) (N : Int) (a : Option Addr) (c : Nat) (X : List Bd.Bk) (h : PgAt w a X) (hl : X.length ≤ 140737488355328) :
    Calls Try.prog 4 #[bud N a X.length c] w fun e w' => e = .returned (.int .i64 (Bd.check N X : Int)) ∧ Below w.heap.size w w' := by
  unfold bud
  obtain ⟨Y, hY⟩ : ∃ Y, Y = Bd.check N X := ⟨_, rfl⟩
  rw [← hY]
  by_cases h1 : N < 0
  · have HY : Hid (Y = 1) := by show _ = _; rw [hY]; unfold Bd.check; rw [if_pos (.inl h1)]
    clear hY h
    go_enter Try.func4, Try.ntmps4
    go_wp2_with fail
    go_ret
    exact ⟨by rw [HY.out]; rfl, bx _ _⟩
  · by_cases h2 : 10 < N
    · have HY : Hid (Y = 1) := by show _ = _; rw [hY]; unfold Bd.check; rw [if_pos (.inr h2)]
      clear hY h
      go_enter Try.func4, Try.ntmps4
      go_wp2_with fail
      go_ret
      exact ⟨by rw [HY.out]; rfl, bx _ _⟩
    · obtain ⟨n, rfl⟩ : ∃ n : Nat, N = n := ⟨N.toNat, by omega⟩
      have hn : n ≤ 10 := by omega
      rw [Bd.check_of hn] at hY
      have HY := hid hY
      have H := hid h
      obtain ⟨q, Q1, q2, q3, s1, s1'⟩ := shl1 hn
      have hmk := run_make_ints q (by omega)
      have OI := ints_made (w.alloc (.cells #[.int .i64 (n : Int), .slice a X.length c] 24)) q (by unfold maxLen; omega)
      obtain ⟨M, hM⟩ : ∃ M, M = madeCells #[Value.int .i64 0] (q * 1) := ⟨_, rfl⟩
      rw [← hM] at hmk OI
      have OI0 : Hid (OwnInts ((w.alloc (.cells #[.int .i64 (n : Int), .slice a X.length c] 24)).alloc (.cells M 3)) (w.heap.size + 1) (.slice (some ⟨w.heap.size + 1, 0, none⟩) q q) (Bd.nm (Bd.pl q (Bd.tk (X.take 0))))) := by
        show OwnInts _ _ _ _
        rw [List.take_zero, Bd.tk_nil, Bd.nm_nil]
        rw [World.size_alloc] at OI
        exact OI
      obtain ⟨c0, c1⟩ := keep2 (bx _ (.cells M 3)) (now2 w (.int .i64 (n : Int)) (.slice a X.length c) 24)
      have B0 := hid (below_tr (bx w (.cells #[.int .i64 (n : Int), .slice a X.length c] 24)) (bx _ (.cells M 3)))
      have HQ3 := hid q3
      have HQ2 := hid q2
      have HNN := hid hn
      have hq2 : (q : Int) ≤ 1024 := by omega
      have hl2 : (X.length : Int) ≤ 140737488355328 := by omega
      clear hY h h1 h2 hM OI q3 q2 hl
      go_enter Try.func4, Try.ntmps4
      go_wp2_with fail
      clear hmk
      generalize (w.alloc (.cells #[.int .i64 (n : Int), .slice a X.length c] 24)).alloc (.cells M 3) = W0 at *
      have HGP : Hid (w.heap.size ≠ w.heap.size + 1) := Nat.ne_of_lt (Nat.lt_succ_self _)
      have HB0 : Hid (w.heap.size ≤ w.heap.size + 1) := Nat.le_succ _
      generalize hgp : w.heap.size + 1 = gp at *
      clear hgp hn
      go_loopw [25, 5] (fun i l wr => ∃ (k e : Nat) (last : Int), k ≤ X.length ∧ i = .int .i64 (k : Int) ∧ l = .int .i64 last ∧ Hid (Bd.Look n X k e last) ∧ Hid (OwnInts wr gp (.slice (some ⟨gp, 0, none⟩) q q) (Bd.nm (Bd.pl q (Bd.tk (X.take k))))) ∧ Hid (Goes (fun b => b = gp) W0 wr (fun b => b = gp))) (fun i _ _ => X.length - (intOf i).toNat)
      case atStart => exact ⟨0, 0, -1, Nat.zero_le _, rfl, rfl, hid (Bd.Look.start n X), OI0, Goes.refl _ _⟩
      case round =>
        obtain ⟨k, e, last, hkl, rfl, rfl, hL, hO, hG⟩ := hrel
        have e0 := cell_goes c0 hG.out HGP.out
        have e1 := cell_goes c1 hG.out HGP.out
        have BR : Hid (Below w.heap.size w wr) := B0.out.trans (hG.out.below B0.out.size (fun b hb => by have := HB0.out; rw [hb]; exact this))
        by_cases hlt : k < X.length
        · obtain ⟨x, hx⟩ : ∃ x, X[k]? = some x := ⟨_, List.getElem?_eq_getElem hlt⟩
          obtain ⟨bb, oo, rfl, d1, d2⟩ := (H.out.below BR.out) k x hx
          obtain ⟨xa, xo⟩ := x
          simp only at d1 d2
          obtain ⟨k0, k1⟩ := err_k hlt
          have HX := hid hx
          have HLT := hid hlt
          have HKL := hid hkl
          have e2 := keep1 (bx wr (.cells #[.int .i64 xa, .int .i64 xo] 37)) e0
          obtain ⟨y0, y1⟩ := now2 wr (.int .i64 xa) (.int .i64 xo) 37
          have RB : Hid (∀ m, Below w.heap.size w ((wr.alloc (.cells #[.int .i64 xa, .int .i64 xo] 37)).drewN m)) := fun m => below_drewN (below_tr BR.out (bx _ _)) m
          have WR := hid fun hw => (HY.out.trans (by rw [hL.out.wrong HX.out hw]; rfl) : Y = 4)
          clear hx hlt hkl
          by_cases h1 : xo < 0
          · have HE := hid (WR.out (.inl (Bd.win_no (.inl h1))))
            clear WR HY hL hO hG
            have j1 : decide (xo < 0) = true := decide_eq_true h1
            (try clear h6)
            (try clear h4)
            (try clear h3)
            (try clear h2)
            (try clear h1)
            (try clear p2 p3)
            go_wp2_with fail
            go_quiet (fail)
            go_wp2_with fail
            go_ret
            exact ⟨by rw [HE.out]; rfl, RB.out _⟩
          · obtain ⟨ko, rfl⟩ := err_nat h1
            by_cases h2 : (n : Int) < (ko : Int)
            · have HE := hid (WR.out (.inl (Bd.win_no (.inr (.inl h2)))))
              clear WR HY hL hO hG
              have j1 : decide ((ko : Int) < 0) = false := decide_eq_false h1
              have j2 : decide ((n : Int) < (ko : Int)) = true := decide_eq_true h2
              have j2' : decide (n < ko) = true := decide_eq_true (Int.ofNat_lt.1 h2)
              (try clear h6)
              (try clear h4)
              (try clear h3)
              (try clear h2)
              (try clear h1)
              (try clear p2 p3)
              go_wp2_with fail
              go_quiet (fail)
              go_wp2_with fail
              go_ret
              exact ⟨by rw [HE.out]; rfl, RB.out _⟩
            · have hko := Nat.le_trans (err_le h2) HNN.out
              have HKO := hid (err_le h2)
              obtain ⟨p, P1, p2, p3, t1, t1'⟩ := shl1 hko
              have hp0 := err_pos p2
              by_cases h3 : xa < 0
              · have HE := hid (WR.out (.inl (Bd.win_no (.inr (.inr (.inl h3))))))
                clear WR HY hL hO hG
                have j1 : decide ((ko : Int) < 0) = false := decide_eq_false h1
                have j2 : decide ((n : Int) < (ko : Int)) = false := decide_eq_false h2
                have j2' : decide (n < ko) = false := decide_eq_false (fun e => h2 (Int.ofNat_lt.2 e))
                have j3 : decide (xa < 0) = true := decide_eq_true h3
                (try clear h6)
                (try clear h4)
                (try clear h3)
                (try clear h2)
                (try clear h1)
                (try clear p2 p3)
                go_wp2_with fail
                go_quiet (fail)
                go_wp2_with fail
                go_ret
                exact ⟨by rw [HE.out]; rfl, RB.out _⟩
              · obtain ⟨ka, rfl⟩ := err_nat h3
                by_cases h4 : (q : Int) ≤ (ka : Int)
                · have HE := hid (WR.out (.inl (Bd.win_no (.inr (.inr (.inr (.inl (by rw [← Bd.cast_pow, ← Q1.out]; exact h4))))))))
                  clear WR HY hL hO hG
                  have j1 : decide ((ko : Int) < 0) = false := decide_eq_false h1
                  have j2 : decide ((n : Int) < (ko : Int)) = false := decide_eq_false h2
                  have j2' : decide (n < ko) = false := decide_eq_false (fun e => h2 (Int.ofNat_lt.2 e))
                  have j3 : decide ((ka : Int) < 0) = false := decide_eq_false h3
                  have j4 : decide ((q : Int) ≤ (ka : Int)) = true := decide_eq_true h4
                  have j4' : decide (q ≤ ka) = true := decide_eq_true (Int.ofNat_le.1 h4)
                  (try clear h6)
                  (try clear h4)
                  (try clear h3)
                  (try clear h2)
                  (try clear h1)
                  (try clear p2 p3)
                  go_wp2_with fail
                  go_quiet (fail)
                  go_wp2_with fail
                  go_ret
                  exact ⟨by rw [HE.out]; rfl, RB.out _⟩
                · have hka := err_ka h4 HQ3.out
                  by_cases h5 : ka % p = 0
                  · by_cases h6 : (ka : Int) ≤ last
                    · have HE := hid (WR.out (.inr h6))
                      clear WR HY hL hO hG
                      have j1 : decide ((ko : Int) < 0) = false := decide_eq_false h1
                      have j2 : decide ((n : Int) < (ko : Int)) = false := decide_eq_false h2
                      have j2' : decide (n < ko) = false := decide_eq_false (fun e => h2 (Int.ofNat_lt.2 e))
                      have j3 : decide ((ka : Int) < 0) = false := decide_eq_false h3
                      have j4 : decide ((q : Int) ≤ (ka : Int)) = false := decide_eq_false h4
                      have j4' : decide (q ≤ ka) = false := decide_eq_false (fun e => h4 (Int.ofNat_le.2 e))
                      have tm0 := err_tm0 h5
                      have j6 : decide ((ka : Int) ≤ last) = true := decide_eq_true h6
                      clear h5
                      (try clear h6)
                      (try clear h4)
                      (try clear h3)
                      (try clear h2)
                      (try clear h1)
                      (try clear p2 p3)
                      go_wp2_with fail
                      go_quiet (fail)
                      go_wp2_with fail
                      go_ret
                      exact ⟨by rw [HE.out]; rfl, RB.out _⟩
                    · clear WR
                      have j1 : decide ((ko : Int) < 0) = false := decide_eq_false h1
                      have j2 : decide ((n : Int) < (ko : Int)) = false := decide_eq_false h2
                      have j2' : decide (n < ko) = false := decide_eq_false (fun e => h2 (Int.ofNat_lt.2 e))
                      have j3 : decide ((ka : Int) < 0) = false := decide_eq_false h3
                      have j4 : decide ((q : Int) ≤ (ka : Int)) = false := decide_eq_false h4
                      have j4' : decide (q ≤ ka) = false := decide_eq_false (fun e => h4 (Int.ofNat_le.2 e))
                      have tm0 := err_tm0 h5
                      have j6 : decide ((ka : Int) ≤ last) = false := decide_eq_false h6
                      have hap := Bd.gap (c := p) h5 (by rw [P1.out, Q1.out]; exact Bd.pow_mod HKO.out) (err_lt h4)
                      have HAP := hid hap
                      have HH5 := hid h5
                      have HH6 := hid (err_flt h6)
                      have HP2 := hid p2
                      clear hap h1 h2 h3 h4 h5 h6 p2 p3
                      go_wp2_with fail
                      go_quiet (fail)
                      go_wp2_with fail
                      have O3 : Hid (OwnInts ((wr.alloc (.cells #[.int .i64 (ka : Int), .int .i64 (ko : Int)] 37)).drewN nq) gp (.slice (some ⟨gp, 0, none⟩) q q) (Bd.nm (Bd.pl q (Bd.mk (X.take k) ka 0)))) := by
                        have h1 := hO.out.below (bx wr (.cells #[.int .i64 (ka : Int), .int .i64 (ko : Int)] 37))
                        have e : Bd.mk (X.take k) ka 0 = Bd.tk (X.take k) := funext fun p => Bd.mk_zero _ _ _
                        show OwnInts _ _ _ _
                        rw [e]
                        exact h1.keep fun _ _ => rfl
                      have G3 : Hid (Goes (fun b => b = gp) W0 ((wr.alloc (.cells #[.int .i64 (ka : Int), .int .i64 (ko : Int)] 37)).drewN nq) (fun b => b = gp)) := by
                        have h1 := hG.out.alloc (.cells #[.int .i64 (ka : Int), .int .i64 (ko : Int)] 37)
                        exact ⟨h1.os, h1.tape, h1.output, h1.size, h1.block, h1.grow⟩
                      have Y0 : Hid (((wr.alloc (.cells #[.int .i64 (ka : Int), .int .i64 (ko : Int)] 37)).drewN nq).cell? ⟨wr.heap.size, 0, none⟩ = some (.int .i64 (ka : Int))) := y0
                      have HNG : Hid (wr.heap.size ≠ gp) := fun e => by have h1 := (hO.out.lt gp rfl).2; omega
                      have RB0 := hid (RB.out nq)
                      clear y0 y1 e0 e1 e2 j1 j2 j2' j3 j4 j4' tm0 j6 k0 k1 d1 d2 RB BR hO hG
                      generalize wr.heap.size = bx9 at *
                      generalize (wr.alloc (.cells #[.int .i64 (ka : Int), .int .i64 (ko : Int)] 37)).drewN nq = W2 at *
                      go_loopw [68] (fun j ws => ∃ m : Nat, m ≤ p ∧ j = .int .i64 (m : Int) ∧ Hid (∀ i, i < m → Bd.tk (X.take k) (ka + i) = false) ∧ Hid (OwnInts ws gp (.slice (some ⟨gp, 0, none⟩) q q) (Bd.nm (Bd.pl q (Bd.mk (X.take k) ka m)))) ∧ Hid (Goes (fun b => b = gp) W2 ws (fun b => b = gp))) (fun j _ => p - (intOf j).toNat)
                      case atStart => exact ⟨0, Nat.zero_le _, rfl, fun i hi => absurd hi (Nat.not_lt_zero _), O3, Goes.refl _ _⟩
                      case round =>
                        obtain ⟨m, hmp, rfl, hA, hO2, hG2⟩ := hrel
                        have y0 := cell_goes Y0.out hG2.out HNG.out
                        have BW : Hid (Below w.heap.size w wr) := RB0.out.trans (hG2.out.below RB0.out.size (fun b hb => by have := HB0.out; rw [hb]; exact this))
                        by_cases hm : m < p
                        · have hlt := inner_lt HAP.out hm
                          have hat := hO2.out.cell (Bd.nm_at (Bd.pl_at (Bd.mk (X.take k) ka m) hlt))
                          have hfz := hO2.out.fz (ka + m)
                          rw [Bd.mk_here] at hat
                          obtain ⟨i1, i2, i3, i4, i6⟩ := err_idx HAP.out HQ3.out hm
                          have HM := hid hm
                          cases hv : Bd.tk (X.take k) (ka + m) with
                          | true =>
                            have HE : Hid (Y = 4) := by show _ = _; rw [HY.out, hL.out.meets HX.out hv]; rfl
                            rw [hv] at hat
                            simp only [if_true] at hat
                            clear hv hO2 hG2 hmp hm hlt hA HY
                            go_wp2_with fail
                            go_ret
                            exact ⟨by rw [HE.out]; rfl, BW.out⟩
                          | false =>
                            have NA : Hid (∀ i, i < m + 1 → Bd.tk (X.take k) (ka + i) = false) := fun i hi => by
                              by_cases e : i = m
                              · rw [e]; exact hv
                              · exact hA.out i (by omega)
                            have NS := hid (hO2.out.set (ka + m) 1)
                            rw [Bd.nm_set, Bd.mk_set] at NS
                            have NG := hid (hG2.out.setCell (q := ⟨gp, ka + m, none⟩) (.inl rfl) (.int .i64 1))
                            rw [hv] at hat
                            simp only [Bool.false_eq_true, if_false] at hat
                            clear hv hO2 hG2 hmp hm hlt hA
                            go_wp2_with fail
                            go_roundw
                            case rel => exact ⟨m + 1, HM.out, by go_num, NA, NS, NG⟩
                            case measure => exact inner_meas HM.out
                        · obtain rfl : m = p := Nat.le_antisymm hmp (Nat.le_of_not_lt hm)
                          have j3 : decide ((m : Int) < (m : Int)) = false := by simp
                          have kk : (k : Int) ≤ 140737488355328 := Int.le_trans (Int.ofNat_le.2 HKL.out) hl2
                          have NO : Hid (OwnInts wr gp (.slice (some ⟨gp, 0, none⟩) q q) (Bd.nm (Bd.pl q (Bd.tk (X.take (k + 1)))))) := by
                            have h1 := hO2.out
                            have e : Bd.mk (X.take k) ka m = Bd.tk (X.take (k + 1)) := by
                              rw [P1.out, Bd.take_snoc HX.out]
                              exact funext fun p => Bd.mk_all _ _ _ _
                            rw [e] at h1
                            exact h1
                          have NL : Hid (Bd.Look n X (k + 1) (ka + 2 ^ ko) (ka : Int)) := hL.out.next HX.out HKO.out (by rw [← P1.out]; exact HH5.out) (by rw [← P1.out, ← Q1.out]; exact HAP.out) HH6.out (fun i hi => hA.out i (by rw [P1.out]; exact hi))
                          have NG := hid (G3.out.trans hG2.out)
                          clear hO2 hG2 hmp hm hA
                          go_wp2_with fail
                          go_roundw
                          case rel => exact ⟨k + 1, _, _, HLT.out, by go_num, rfl, NL, NO, NG⟩
                          case measure => exact inner_meas HLT.out
                  · have HE := hid (WR.out (.inl (Bd.win_no (.inr (.inr (.inr (.inr (fun e => h5 (err_mod e P1.out)))))))))
                    clear WR HY hL hO hG
                    have j1 : decide ((ko : Int) < 0) = false := decide_eq_false h1
                    have j2 : decide ((n : Int) < (ko : Int)) = false := decide_eq_false h2
                    have j2' : decide (n < ko) = false := decide_eq_false (fun e => h2 (Int.ofNat_lt.2 e))
                    have j3 : decide ((ka : Int) < 0) = false := decide_eq_false h3
                    have j4 : decide ((q : Int) ≤ (ka : Int)) = false := decide_eq_false h4
                    have j4' : decide (q ≤ ka) = false := decide_eq_false (fun e => h4 (Int.ofNat_le.2 e))
                    obtain ⟨rr, tmr, j5⟩ := err_tm1 h5
                    clear h5
                    (try clear h6)
                    (try clear h4)
                    (try clear h3)
                    (try clear h2)
                    (try clear h1)
                    (try clear p2 p3)
                    go_wp2_with fail
                    go_quiet (fail)
                    go_wp2_with fail
                    go_ret
                    exact ⟨by rw [HE.out]; rfl, RB.out _⟩
        · obtain rfl := err_last hkl hlt
          have j3 : decide ((X.length : Int) < (X.length : Int)) = false := by simp
          have HE : Hid (Y = 0) := by show _ = _; rw [HY.out, hL.out.done]; rfl
          clear hL hO hG
          go_wp2_with fail
          go_ret
          exact ⟨by rw [HE.out]; rfl, BR.out⟩

end Go.Proofs.Ytodimkkgmidgcab.PBuddy
