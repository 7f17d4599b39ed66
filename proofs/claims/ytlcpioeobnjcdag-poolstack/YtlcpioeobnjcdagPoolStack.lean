/- quirkeep.PoolStack, walked: true whatever is handed in. Conditions: the refs' slice has no less capacity than length. -/
import Derived.Test.YtlcpioeobnjcdagPoolBest
namespace Go.Proofs.Ytlcpioeobnjcdag.PPool
open Go Go.RowKit
set_option maxRecDepth 100000

/-- MATTSON, of what the four calls answer. -/
structure Stacked (n : Nat) (O1 O2 O3 O4 : List Bool × List Int) : Prop where
  l1 : O1.1.length = n
  l2 : O2.1.length = n
  more : ∀ i : Nat, O1.1[i]? = some true → O2.1[i]? = some true
  best : Pl.hits O3.1 ≤ Pl.hits O4.1
  len : O1.2.length ≤ O2.2.length
  tail : O1.2 = O2.2.drop (O2.2.length - O1.2.length)
theorem stack_stack {a b : Int} {refs : List Int} (h1 : chk a refs.length = 0) (h2 : chk b refs.length = 0) (hab : a ≤ b) :
    Stacked refs.length (out Pl.lruR () a refs) (out Pl.lruR () b refs) (out Pl.bestR () a refs) (out Pl.bestR () b refs) := by
  obtain ⟨a1, a2, a3, a4⟩ := chk_zero h1
  obtain ⟨b1, b2, b3, _⟩ := chk_zero h2
  have hn : a.toNat ≤ b.toNat := by omega
  rw [out_eq _ _ h1, out_eq _ _ h2, out_eq _ _ h1, out_eq _ _ h2]
  have e1 : ∀ k, Pl.lastk k [] = [] := fun k => by simp [Pl.lastk]
  have m := Pl.lru_more a1 hn refs [] List.nodup_nil
  have z1 := Pl.lru_end a1 refs [] List.nodup_nil
  have z2 := Pl.lru_end b1 refs [] List.nodup_nil
  rw [e1] at z1 z2
  rw [e1, e1] at m
  have t := Pl.lastk_lastk hn (Pl.recs [] refs)
  refine ⟨run_len _ _ _ _, run_len _ _ _ _, ?_, ?_, ?_, ?_⟩
  · simp only
    rw [(Pl.lru_run a1 refs).1, (Pl.lru_run b1 refs).1]
    exact m
  · simp only
    rw [(Pl.best_run a1 refs).1, (Pl.best_run b1 refs).1]
    exact Pl.best_most b1 (((Pl.best_keeps a1).alg refs [] (Pl.Ok.nil _)).wider hn)
  · simp only
    rw [(Pl.lru_run a1 refs).2, (Pl.lru_run b1 refs).2, z1, z2]
    exact t.1
  · simp only
    rw [(Pl.lru_run a1 refs).2, (Pl.lru_run b1 refs).2, z1, z2]
    exact t.2
theorem slice_zero (W : World) (a : Option Addr) (c : Nat) : (Instr.slice 38 (.slice a 0 c) (some (.int .i64 0)) none none).run Try.prog W = .ok (.slice a 0 c) W := by
  have u : Try.prog.underlying 38 = some (.slice (Try.prog.elem 38)) := by kernel_rfl
  rw [run_slice_l W 38 a 0 c u .i64 0 (by decide) (by decide)]
  have z : (sizeOf (Try.prog.elem 38)).run Try.prog W = .ok 1 W := by kernel_rfl
  rw [z]
  unfold sliced
  cases a with
  | none => simp [Result.andThen]
  | some q => simp [Result.andThen, Addr.add]
theorem slice_tail (W : World) (a : Option Addr) (c : Nat) (X Y : List Int) (h : IntsAt W a X) (hy : Y.length ≤ X.length) (hc : X.length ≤ c) :
    ∃ a2 c2, (∀ W', (Instr.slice 38 (.slice a X.length c) (some (.int .i64 ((X.length : Int) - (Y.length : Int)))) none none).run Try.prog W' = .ok (.slice a2 (X.drop (X.length - Y.length)).length c2) W') ∧ IntsAt W a2 (X.drop (X.length - Y.length)) := by
  obtain ⟨k, hk⟩ : ∃ k, k = X.length - Y.length := ⟨_, rfl⟩
  have e : ((X.length : Int) - (Y.length : Int)) = (k : Int) := by omega
  rw [e, ← hk]
  by_cases hp : 0 < X.length
  · obtain ⟨b, o, rfl, _⟩ := h.lt hp
    refine ⟨_, _, fun W' => by have := slice_behind W' b o X.length c k (by omega); rw [List.length_drop]; exact this, ?_⟩
    by_cases ec : c = k
    · rw [List.drop_of_length_le (by omega)]
      exact RowAt.nil _ _
    · rw [if_neg ec]
      exact h.drop k
  · have : X = [] := List.eq_nil_of_length_eq_zero (by omega)
    subst this
    have : k = 0 := by simp at hk; omega
    subst this
    exact ⟨a, c, fun W' => slice_zero W' a c, RowAt.nil _ _⟩

set_option maxHeartbeats 1000000 in
theorem stack_walk (w : World) (a b : Int) (sa : Option Addr) (c : Nat) (refs : List Int) (h : IntsAt w sa refs) (hcap : refs.length ≤ c) :
    Calls Try.prog 6 #[.int .i64 a, .int .i64 b, .slice sa refs.length c] w fun e w' => e = .returned (.bool true) ∧ Below w.heap.size w w' := by
  obtain ⟨A, B, hAB, hmin, hmax⟩ : ∃ A B : Int, A ≤ B ∧ (∀ W, (Builtin.min_ #[3, 3] 3 #[.int .i64 a, .int .i64 b]).run Try.prog W = .ok (.int .i64 A) W) ∧ (∀ W, (Builtin.max_ #[3, 3] 3 #[.int .i64 a, .int .i64 b]).run Try.prog W = .ok (.int .i64 B) W) :=
    ⟨_, _, by split <;> split <;> omega, fun W => run_min_int2 W _ _ _ _ _ _, fun W => run_max_int2 W _ _ _ _ _ _⟩
  obtain ⟨y1, hy1⟩ : ∃ y, y = chk A refs.length := ⟨_, rfl⟩
  obtain ⟨y2, hy2⟩ : ∃ y, y = chk B refs.length := ⟨_, rfl⟩
  obtain ⟨O1, hO1⟩ : ∃ O, O = out Pl.lruR () A refs := ⟨_, rfl⟩
  obtain ⟨O2, hO2⟩ : ∃ O, O = out Pl.lruR () B refs := ⟨_, rfl⟩
  obtain ⟨O3, hO3⟩ : ∃ O, O = out Pl.bestR () A refs := ⟨_, rfl⟩
  obtain ⟨O4, hO4⟩ : ∃ O, O = out Pl.bestR () B refs := ⟨_, rfl⟩
  have K1 : Hid (∀ W, Below w.heap.size w W → Calls Try.prog 19 #[.int .i64 A, .slice sa refs.length c] W fun e w' => Ans W w' e y1 O1) := fun W hW => by rw [hy1, hO1]; exact lru_any W A sa c refs (h.below hW)
  have K2 : Hid (∀ W, Below w.heap.size w W → Calls Try.prog 19 #[.int .i64 B, .slice sa refs.length c] W fun e w' => Ans W w' e y2 O2) := fun W hW => by rw [hy2, hO2]; exact lru_any W B sa c refs (h.below hW)
  have K3 : Hid (∀ W, Below w.heap.size w W → Calls Try.prog 15 #[.int .i64 A, .slice sa refs.length c] W fun e w' => Ans W w' e y1 O3) := fun W hW => by rw [hy1, hO3]; exact best_any W A sa c refs (h.below hW) hcap
  have K4 : Hid (∀ W, Below w.heap.size w W → Calls Try.prog 15 #[.int .i64 B, .slice sa refs.length c] W fun e w' => Ans W w' e y2 O4) := fun W hW => by rw [hy2, hO4]; exact best_any W B sa c refs (h.below hW) hcap
  have l1 : O1.1.length ≤ 2000 := by rw [hO1]; exact out_len _ _ _ _
  have l2 : O2.1.length ≤ 2000 := by rw [hO2]; exact out_len _ _ _ _
  have l3 : O3.1.length ≤ 2000 := by rw [hO3]; exact out_len _ _ _ _
  have l4 : O4.1.length ≤ 2000 := by rw [hO4]; exact out_len _ _ _ _
  have M : Hid (y1 = 0 → y2 = 0 → Stacked refs.length O1 O2 O3 O4 ∧ O2.2.length ≤ 50) := fun e1 e2 => by
    rw [hy1] at e1
    rw [hy2] at e2
    rw [hO1, hO2, hO3, hO4]
    refine ⟨stack_stack e1 e2 hAB, ?_⟩
    obtain ⟨z1, z2, z3, _⟩ := chk_zero e2
    rw [out_eq _ _ e2]
    simp only
    rw [(Pl.lru_run z1 refs).2]
    exact Nat.le_trans ((Pl.lru_keeps z1).inv refs [] (Pl.Ok.nil _)).room z2
  clear hy1 hy2 hO1 hO2 hO3 hO4 h hAB
  have KT : Hid (∀ W : World, Calls Try.prog 19 #[.int .i64 2, .slice (some ⟨W.heap.size, 0, none⟩) 4 4] (W.alloc (.cells #[.int .i64 1, .int .i64 2, .int .i64 1, .int .i64 3] 3)) fun e w' => Ans (W.alloc (.cells #[.int .i64 1, .int .i64 2, .int .i64 1, .int .i64 3] 3)) w' e 0 (out Pl.lruR () 2 [1, 2, 1, 3])) := fun W => lru_any _ 2 _ 4 [1, 2, 1, 3] (row_new W 3 [1, 2, 1, 3])
  have ht : out Pl.lruR () 2 [1, 2, 1, 3] = ([false, false, true, false], [1, 3]) := by decide
  obtain ⟨Ot, hOt⟩ : ∃ O, O = out Pl.lruR () 2 [1, 2, 1, 3] := ⟨_, rfl⟩
  rw [← hOt] at KT ht
  have T1 : Hid (Ot.2 = [1, 3]) := by show _ = _; rw [ht]
  clear hOt ht
  go_enter Try.func6, Try.ntmps6
  go_wp2_with fail
  refine (KT.out w).mono ?_
  rintro r w1 hA
  obtain ⟨a1, c1, a2, c2, rfl, _, i2, _, b1⟩ := hA.take
  have B1 := below_to (bx w _) b1.out
  have HE := hid (eqInts_any (w1.alloc (.cells #[.int .i64 1, .int .i64 3] 3)) a2 (some ⟨w1.heap.size, 0, none⟩) c2 2 Ot.2 [1, 3] (i2.out.below (bx _ _)) (row_new w1 3 [1, 3]) (by rw [T1.out]; decide))
  rw [decide_eq_true T1.out] at HE
  clear hA b1 i2 KT
  go_wp2_with fail
  refine (HE.out).mono ?_
  rintro r w3 ⟨rfl, hb3⟩
  have B3 := below_to (below_to B1.out (bx _ _)).out hb3
  clear hb3 HE B1 T1
  go_wp2_with fail
  refine (K1.out w3 B3.out).mono ?_
  rintro r w4 hA
  obtain ⟨p1, q1, p2, q2, rfl, i4, j4, s4, b4⟩ := hA.take
  have B4 := below_to B3.out b4.out
  clear hA B3 b4 K1
  go_wp2_with fail
  refine (K2.out w4 B4.out).mono ?_
  rintro r w5 hA
  obtain ⟨p3, q3, p4, q4, rfl, i5, j5, s5, b5⟩ := hA.take
  have B5 := below_to B4.out b5.out
  have i4a := hid (i4.out.below b5.out)
  have j4a := hid (j4.out.below b5.out)
  clear hA B4 b5 i4 j4 K2
  go_wp2_with fail
  refine (K3.out w5 B5.out).mono ?_
  rintro r w6 hA
  obtain ⟨p5, q5, p6, q6, rfl, i6, _, _, b6⟩ := hA.take
  have B6 := below_to B5.out b6.out
  have i4b := hid (i4a.out.below b6.out)
  have j4b := hid (j4a.out.below b6.out)
  have i5b := hid (i5.out.below b6.out)
  have j5b := hid (j5.out.below b6.out)
  clear hA B5 b6 i4a j4a i5 j5 K3
  go_wp2_with fail
  refine (K4.out w6 B6.out).mono ?_
  rintro r w7 hA
  obtain ⟨p7, q7, p8, q8, rfl, i7, _, _, b7⟩ := hA.take
  have B7 := below_to B6.out b7.out
  have I1 := hid (i4b.out.below b7.out)
  have J1 := hid (j4b.out.below b7.out)
  have I2 := hid (i5b.out.below b7.out)
  have J2 := hid (j5b.out.below b7.out)
  have I3 := hid (i6.out.below b7.out)
  clear hA B6 b7 i4b j4b i5b j5b i6 K4
  by_cases hy1 : y1 = 0
  · by_cases hy2 : y2 = 0
    · subst hy1; subst hy2
      obtain ⟨MS, m50⟩ := M.out rfl rfl
      clear M
      have HS := hid MS
      obtain ⟨a9, c9, hv, hT⟩ := slice_tail w7 p4 q4 O2.2 O1.2 J2.out MS.len s5.out
      have HT : Hid (IntsAt w7 a9 (O2.2.drop (O2.2.length - O1.2.length))) := hT
      obtain ⟨D, hD⟩ : ∃ D, D = O2.2.drop (O2.2.length - O1.2.length) := ⟨_, rfl⟩
      rw [← hD] at HT hv
      have HD : Hid (O1.2 = D) := by show _ = _; rw [hD]; exact MS.tail
      have hle : (O1.2.length : Int) ≤ (O2.2.length : Int) := by have := MS.len; omega
      have hle2 : decide ((O1.2.length : Int) ≤ (O2.2.length : Int)) = true := by simpa using hle
      have h50 : (O2.2.length : Int) ≤ 50 := by omega
      have hbst : (Pl.hits O3.1 : Int) ≤ (Pl.hits O4.1 : Int) := by have := MS.best; omega
      have H3 := hid (hits_any w7 p5 q5 O3.1 I3.out (by omega))
      have H4 := hid (fun W hb => hits_any W p7 q7 O4.1 (i7.out.below (w' := W) hb) (by omega))
      have HE := hid (fun W (hb : Below w7.heap.size w7 W) => eqInts_any W p2 a9 q2 c9 O1.2 D (J1.out.below hb) (HT.out.below hb) (by omega))
      rw [decide_eq_true HD.out] at HE
      have L1 : Hid (O1.1.length = refs.length) := MS.l1
      have L2 : Hid (O2.1.length = refs.length) := MS.l2
      generalize Pl.hits O3.1 = n3 at *
      generalize Pl.hits O4.1 = n4 at *
      have hb1 : decide ((n3 : Int) ≤ (n4 : Int)) = true := by simpa using hbst
      clear hT hD MS J1 J2 I3 i7 HT m50 l3 l4
      go_wp2_with fail
      go_loopw [89] (fun i wr => ∃ k : Nat, k ≤ O1.1.length ∧ i = .int .i64 (k : Int) ∧ wr = w7) (fun i _ => O1.1.length - (intOf i).toNat)
      case atStart => exact ⟨0, Nat.zero_le _, rfl, rfl⟩
      case round =>
        obtain ⟨k, hk, rfl, rfl⟩ := hrel
        by_cases hlt : k < O1.1.length
        · have hlt2 : k < O2.1.length := by have := L1.out; have := L2.out; omega
          obtain ⟨x1, hx1⟩ : ∃ x, O1.1[k]? = some x := ⟨_, List.getElem?_eq_getElem hlt⟩
          obtain ⟨x2, hx2⟩ : ∃ x, O2.1[k]? = some x := ⟨_, List.getElem?_eq_getElem hlt2⟩
          obtain ⟨g1, o1, rfl, d1⟩ := I1.out k x1 hx1
          obtain ⟨g2, o2, rfl, d2⟩ := I2.out k x2 hx2
          have k0 : (0 : Int) ≤ (k : Int) := by omega
          have k1 : (k : Int) < (O1.1.length : Int) := by omega
          have k2 : (k : Int) < (O2.1.length : Int) := by omega
          have k3 : decide ((O2.1.length : Int) ≤ (k : Int)) = false := by simp; omega
          have hx := HS.out.more k
          cases x1 with
          | true =>
            obtain rfl : x2 = true := by have := hx hx1; rw [hx2] at this; exact Option.some.inj this
            clear hx hx1 hx2
            go_wp2_with fail
            go_roundw
            case rel => exact ⟨k + 1, by omega, by go_num, trivial⟩
            case measure => simp [intOf]; omega
          | false =>
            clear hx hx1 hx2
            go_wp2_with fail
            go_roundw
            case rel => exact ⟨k + 1, by omega, by go_num, trivial⟩
            case measure => simp [intOf]; omega
        · obtain rfl : k = O1.1.length := by omega
          have j3 : decide ((O1.1.length : Int) < (O1.1.length : Int)) = false := by simp
          go_wp2_with fail
          refine (H3.out).mono ?_
          rintro r w8 ⟨rfl, hb8⟩
          have H48 := hid (H4.out w8 hb8)
          have B8 := hid hb8
          clear hb8 H3 H4
          go_wp2_with fail
          refine (H48.out).mono ?_
          rintro r w9 ⟨rfl, hb9⟩
          have B9 := below_to B8.out hb9
          have HE9 := hid (HE.out w9 B9.out)
          clear hb9 H48 B8 HE
          go_wp2_with fail
          refine (HE9.out).mono ?_
          rintro r w10 ⟨rfl, hb10⟩
          have B10 := below_to B9.out hb10
          clear hb10 HE9 B9
          go_wp2_with fail
          go_ret
          exact ⟨rfl, (below_to B7.out B10.out).out⟩
    · subst hy1
      have j2 : (y2 != 0) = true := by simpa using hy2
      clear M l1 l2 l3 l4 I1 I2 I3 J1 J2 i7
      go_wp2_with fail
      go_ret
      exact ⟨rfl, B7.out⟩
  · have j1 : (y1 != 0) = true := by simpa using hy1
    clear M l1 l2 l3 l4 I1 I2 I3 J1 J2 i7
    go_wp2_with fail
    go_ret
    exact ⟨rfl, B7.out⟩

end Go.Proofs.Ytlcpioeobnjcdag.PPool
