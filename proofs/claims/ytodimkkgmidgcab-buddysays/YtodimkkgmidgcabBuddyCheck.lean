/- buddy.within, endOf and Check, walked: each answers what the plain functions say, and nothing that was there has turned. Conditions: the order is one that may be; how many blocks there are. -/
import Derived.Test.YtodimkkgmidgcabBuddyMem
import Derived.Test.YtodimkkgmidgcabBuddyRefNum
namespace Go.Proofs.Ytodimkkgmidgcab.PBuddy
open Go Go.RowKit PPool
set_option maxRecDepth 100000

/-- 1 << k. -/
theorem shl1 {k : Nat} (h : k ≤ 10) : ∃ p : Nat, Hid (p = 2 ^ k) ∧ 0 < p ∧ p ≤ 1024 ∧ IntKind.i64.wrap (2 ^ k) = (p : Int) ∧ wrap64 (2 ^ k) = (p : Int) := by
  have h1 := Bd.pow_le h
  have e := Bd.cast_pow k
  have h2 := Bd.pow_pos' k
  obtain ⟨p, hp⟩ : ∃ p, p = 2 ^ k := ⟨_, rfl⟩
  rw [← hp] at h1 e h2
  have h3 : IntKind.i64.wrap (2 ^ k) = (p : Int) := by rw [← e, IntWalk.i64_in _ ⟨by omega, by omega⟩]
  exact ⟨p, hid hp, h2, h1, h3, by rw [← IntWalk.i64_left]; exact h3⟩

theorem win_nat {n : Nat} {a : Int} {k p q : Nat} (hk : k ≤ n) (hp : p = 2 ^ k) (hq : q = 2 ^ n) (ha : 0 ≤ a) : Bd.win n ⟨a, (k : Int)⟩ = (decide (a ≤ (q : Int) - (p : Int)) && decide (a % (p : Int) = 0)) := by
  have e1 := Bd.cast_pow k
  have e2 := Bd.cast_pow n
  rw [Bool.eq_iff_iff, Bool.and_eq_true, decide_eq_true_eq, decide_eq_true_eq]
  unfold Bd.win
  rw [decide_eq_true_eq]
  simp only [Int.toNat_natCast]
  rw [← e1, ← e2, ← hp, ← hq]
  omega

set_option maxHeartbeats 1000000 in
theorem within_any (w : World) (x : Bd.Bk) (n : Nat) (hn : n ≤ 10) :
    Calls Try.prog 23 #[.agg #[.int .i64 x.a, .int .i64 x.o], .int .i64 (n : Int)] w fun e w' => e = .returned (.bool (Bd.win n x)) ∧ Below w.heap.size w w' := by
  obtain ⟨a, o⟩ := x
  obtain ⟨Y, hY⟩ : ∃ Y, Y = Bd.win n ⟨a, o⟩ := ⟨_, rfl⟩
  rw [← hY]
  simp only
  by_cases h1 : o < 0
  · have HY : Hid (Y = false) := hY.trans (Bd.win_no (.inl h1))
    clear hY
    go_enter Try.func23, Try.ntmps23
    go_wp2_with fail
    go_ret
    exact ⟨by rw [HY.out]; rfl, bx _ _⟩
  · by_cases h2 : (n : Int) < o
    · have HY : Hid (Y = false) := hY.trans (Bd.win_no (.inr (.inl h2)))
      clear hY
      go_enter Try.func23, Try.ntmps23
      go_wp2_with fail
      go_ret
      exact ⟨by rw [HY.out]; rfl, bx _ _⟩
    · obtain ⟨k, rfl⟩ : ∃ k : Nat, o = k := ⟨o.toNat, by omega⟩
      have hk : k ≤ 10 := by omega
      obtain ⟨p, P1, p2, p3, s1, s1'⟩ := shl1 hk
      obtain ⟨q, Q1, q2, q3, s2, s2'⟩ := shl1 hn
      by_cases h3 : a < 0
      · have HY : Hid (Y = false) := hY.trans (Bd.win_no (.inr (.inr (.inl h3))))
        have j1 : decide (0 ≤ a) = false := by simp; omega
        clear hY
        go_enter Try.func23, Try.ntmps23
        go_wp2_with fail
        go_quiet (fail)
        go_wp2_with fail
        go_ret
        exact ⟨by rw [HY.out]; rfl, below_drewN (bx _ _) _⟩
      · have hw := win_nat (n := n) (a := a) (k := k) (by omega) P1.out Q1.out (by omega)
        have j1 : decide (0 ≤ a) = true := by simp; omega
        have w1 : IntKind.i64.wrap ((q : Int) - (p : Int)) = (q : Int) - (p : Int) := IntWalk.i64_in _ ⟨by omega, by omega⟩
        by_cases h4 : a ≤ (q : Int) - (p : Int)
        · have j2 : decide (a ≤ (q : Int) - (p : Int)) = true := by simpa using h4
          rw [j2, Bool.true_and] at hw
          have t1 : a.tmod (p : Int) = a % (p : Int) := Int.tmod_eq_emod_of_nonneg (by omega)
          have t2 : ¬ (p : Int) = 0 := by omega
          have HY : Hid (Y = (a % (p : Int) == 0)) := by
            show _ = _
            rw [hY, hw]
            rfl
          clear hY hw P1 Q1
          go_enter Try.func23, Try.ntmps23
          go_wp2_with fail
          go_quiet (fail)
          go_wp2_with fail
          go_ret
          exact ⟨by rw [HY.out]; rfl, below_drewN (bx _ _) _⟩
        · have j2 : decide (a ≤ (q : Int) - (p : Int)) = false := by simpa using h4
          rw [j2, Bool.false_and] at hw
          have HY : Hid (Y = false) := hY.trans hw
          clear hY hw P1 Q1
          go_enter Try.func23, Try.ntmps23
          go_wp2_with fail
          go_quiet (fail)
          go_wp2_with fail
          go_ret
          exact ⟨by rw [HY.out]; rfl, below_drewN (bx _ _) _⟩

theorem endOf_any (w : World) (a k : Nat) (hk : k ≤ 10) (ha : a ≤ 1024) :
    Calls Try.prog 18 #[.agg #[.int .i64 (a : Int), .int .i64 (k : Int)]] w fun e w' => e = .returned (.int .i64 ((a + 2 ^ k : Nat) : Int)) ∧ Below w.heap.size w w' := by
  obtain ⟨p, P1, p2, p3, s1, s1'⟩ := shl1 hk
  rw [← P1.out]
  have w1 : IntKind.i64.wrap ((a : Int) + (p : Int)) = (a : Int) + (p : Int) := IntWalk.i64_in _ ⟨by omega, by omega⟩
  go_enter Try.func18, Try.ntmps18
  go_wp2_with fail
  go_quiet (fail)
  go_wp2_with fail
  go_ret
  exact ⟨by simp, below_drewN (bx _ _) _⟩

/-- Room as it is handed in: its order, and a slice of blocks. -/
def bud (N : Int) (a : Option Addr) (n c : Nat) : Value := .agg #[.int .i64 N, .slice a n c]

set_option maxHeartbeats 1000000 in
theorem check_any (w : World) (N : Int) (a : Option Addr) (c : Nat) (X : List Bd.Bk) (h : PgAt w a X) (hl : X.length ≤ 9223372036854775807) :
    Calls Try.prog 8 #[bud N a X.length c] w fun e w' => e = .returned (.int .i64 (Bd.check N X : Int)) ∧ Below w.heap.size w w' := by
  unfold bud
  obtain ⟨Y, hY⟩ : ∃ Y, Y = Bd.check N X := ⟨_, rfl⟩
  rw [← hY]
  by_cases h1 : N < 0
  · have HY : Hid (Y = 1) := by show _ = _; rw [hY]; unfold Bd.check; rw [if_pos (.inl h1)]
    clear hY h
    go_enter Try.func8, Try.ntmps8
    go_wp2_with fail
    go_ret
    exact ⟨by rw [HY.out]; rfl, bx _ _⟩
  · by_cases h2 : 10 < N
    · have HY : Hid (Y = 1) := by show _ = _; rw [hY]; unfold Bd.check; rw [if_pos (.inr h2)]
      clear hY h
      go_enter Try.func8, Try.ntmps8
      go_wp2_with fail
      go_ret
      exact ⟨by rw [HY.out]; rfl, bx _ _⟩
    · obtain ⟨n, rfl⟩ : ∃ n : Nat, N = n := ⟨N.toNat, by omega⟩
      have hn : n ≤ 10 := by omega
      rw [Bd.check_of hn] at hY
      have HY := hid hY
      have H := hid h
      have KW := hid fun W x => within_any W x n hn
      have KE := hid fun W a k => endOf_any W a k
      clear hY h
      go_enter Try.func8, Try.ntmps8
      go_wp2_with fail
      go_loopw [17, 3] (fun i e wr => ∃ k m : Nat, k ≤ X.length ∧ i = .int .i64 (k : Int) ∧ e = .int .i64 (m : Int) ∧ Hid (Bd.chk n 0 X = Bd.chk n m (X.drop k)) ∧ Hid (Below (w.heap.size + 1) (w.alloc (.cells #[.int .i64 (n : Int), .slice a X.length c] 24)) wr)) (fun i _ _ => X.length - (intOf i).toNat)
      case atStart => exact ⟨0, 0, Nat.zero_le _, rfl, rfl, by show _ = _; simp, Below.refl _ _⟩
      case round =>
        obtain ⟨k, m, hk, rfl, rfl, hC, hb⟩ := hrel
        obtain ⟨c0, c1⟩ := box2 (w := w) (T := 24) (by rw [World.size_alloc]; exact hb.out)
        by_cases hlt : k < X.length
        · obtain ⟨x, hx⟩ : ∃ x, X[k]? = some x := ⟨_, List.getElem?_eq_getElem hlt⟩
          have hbw : Below w.heap.size w wr := below_tr (bx w (.cells #[.int .i64 (n : Int), .slice a X.length c] 24)) (by rw [World.size_alloc]; exact hb.out)
          obtain ⟨b, o, rfl, d1, d2⟩ := (H.out.below hbw) k x hx
          have k0 : (0 : Int) ≤ (k : Int) := by omega
          have k1 : (k : Int) < (X.length : Int) := by omega
          have HD := hid (hC.out.trans (congrArg (Bd.chk n m) (Bd.drop_of hx)))
          clear hx hC hbw
          obtain ⟨xa, xo⟩ := x
          simp only at d1 d2
          have hB : Hid (Below (w.heap.size + 1) (w.alloc (.cells #[.int .i64 (n : Int), .slice (some ⟨b, o, none⟩) X.length c] 24)) (wr.alloc (.cells #[.int .i64 xa, .int .i64 xo] 37))) := hb.out.alloc (by have := hb.out.size; rw [World.size_alloc] at this; exact this) _
          have c2 := keep1 (bx wr (.cells #[.int .i64 xa, .int .i64 xo] 37)) c0
          go_wp2_with fail
          refine (KW.out _ ⟨xa, xo⟩).mono ?_
          rintro r w3 ⟨rfl, hb3⟩
          obtain ⟨e0, e1⟩ := box2 hb3
          have B3 : Hid (Below (w.heap.size + 1) (w.alloc (.cells #[.int .i64 (n : Int), .slice (some ⟨b, o, none⟩) X.length c] 24)) w3) := hB.out.trans (hb3.mono (by have := hB.out.size; rw [World.size_alloc] at this; exact this))
          clear hb3 hB c0 c1 c2 d1 d2
          cases hW : Bd.win n ⟨xa, xo⟩ with
          | false =>
            have HF : Hid (Y = 4) := by
              show _ = _
              rw [HY.out, HD.out, Bd.chk, hW]
              rfl
            clear HY HD hW
            go_wp2_with fail
            go_ret
            exact ⟨by rw [HF.out]; rfl, below_tr (bx _ _) (by rw [World.size_alloc]; exact B3.out)⟩
          | true =>
            obtain ⟨p, q, hpq, hq1, hq2, hq3⟩ := Bd.win_is hW
            unfold Bd.bk at hpq
            injection hpq with hp1 hp2
            subst hp1; subst hp2
            by_cases hlt2 : (p : Int) < (m : Int)
            · have HF : Hid (Y = 4) := by
                show _ = _
                rw [HY.out, HD.out, Bd.chk, hW, decide_eq_false (by show ¬ (m : Int) ≤ (p : Int); omega)]
                rfl
              clear HY HD hW
              go_wp2_with fail
              go_ret
              exact ⟨by rw [HF.out]; rfl, below_tr (bx _ _) (by rw [World.size_alloc]; exact B3.out)⟩
            · have NC : Hid (Bd.chk n 0 X = Bd.chk n (p + 2 ^ q) (X.drop (k + 1))) := by
                show _ = _
                rw [HD.out, Bd.chk, hW, decide_eq_true (show (m : Int) ≤ (p : Int) by omega)]
                show Bd.chk n (Bd.en (Bd.bk p q)) _ = _
                rw [Bd.en_bk]
              have pn := Bd.pow_le hn
              have hq10 : q ≤ 10 := by omega
              have hp10 : p ≤ 1024 := by omega
              clear HD hW
              go_wp2_with fail
              refine (KE.out _ p q hq10 hp10).mono ?_
              rintro r w4 ⟨rfl, hb4⟩
              have B4 : Hid (Below (w.heap.size + 1) (w.alloc (.cells #[.int .i64 (n : Int), .slice (some ⟨b, o, none⟩) X.length c] 24)) w4) := B3.out.trans (hb4.mono (by have := B3.out.size; rw [World.size_alloc] at this; exact this))
              clear hb4 B3 e0 e1
              obtain ⟨z, hz⟩ : ∃ z, z = p + 2 ^ q := ⟨_, rfl⟩
              rw [← hz] at NC ⊢
              clear hz hq2 hq3
              go_wp2_with fail
              go_roundw
              case rel => exact ⟨k + 1, z, by omega, by go_num, rfl, NC, B4⟩
              case measure => simp [intOf]; omega
        · obtain rfl : k = X.length := by omega
          have j3 : decide ((X.length : Int) < (X.length : Int)) = false := by simp
          have HF : Hid (Y = 0) := by
            show _ = _
            rw [HY.out, hC.out, List.drop_length]
            rfl
          clear hC HY
          go_wp2_with fail
          go_ret
          exact ⟨by rw [HF.out]; rfl, below_tr (bx _ _) (by rw [World.size_alloc]; exact hb.out)⟩

end Go.Proofs.Ytodimkkgmidgcab.PBuddy
