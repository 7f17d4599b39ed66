/- graph.Order, walked: it answers what the plain function says, in a row of its own; nothing that was there has turned. Conditions: how many edges there are. -/
import Derived.Test.YtbgcldckgiiedajGraphAhd
import Derived.Test.YtbgcldckgiiedajGraphLeast
import Derived.Test.YtbgcldckgiiedajGraphCheck
namespace Go.Proofs.Ytbgcldckgiiedaj.PGraph
open Go Go.RowKit PPool
set_option maxRecDepth 100000

theorem made_nats (w : World) (n : Nat) (hn : n ≤ maxLen) : OwnNats (w.alloc (.cells (madeCells #[.int .i64 0] (n * 1)) 3)) w.heap.size (.slice (some ⟨w.heap.size, 0, none⟩) 0 n) [] := by
  refine ⟨by simp, .inr ⟨w.heap.size, n, _, by simp, Nat.le_refl _, heap_alloc_new w _, by simp, hn, ?_, by simp⟩⟩
  unfold madeCells
  simp
theorem run_make_nats (n : Nat) (hn : n ≤ 4096) (W : World) : (Instr.makeSlice 31 (.int .i64 0) (.int .i64 (n : Int))).run Try.prog W = .ok (.slice (some ⟨W.heap.size, 0, none⟩) 0 n) (W.alloc (.cells (madeCells #[.int .i64 0] (n * 1)) 3)) := by
  obtain ⟨i0, hi, hz0, hz1, hz2⟩ := info_parts int_info3
  have := run_make (P := Try.prog) W 31 3 i0 (.int .i64 0) Try.underlying31 hi hz0 .i64 .i64 0 n (by omega) (by omega) (by rw [hz2]; omega) (by omega)
  rw [hz1] at this
  exact this

set_option maxHeartbeats 4000000 in
theorem order_any (w : World) (n : Int) (a : Option Addr) (c : Nat) (X : List Gr.Ed) (h : PgAt w a X) (hl : X.length ≤ 9223372036854775807) :
    Calls Try.prog 17 #[.int .i64 n, .slice a X.length c] w fun e w' => ∃ v, e = .returned (.tuple #[v, .int .i64 (Gr.ordCode n X)]) ∧ OwnNats w' w.heap.size v (Gr.ordList n X) ∧ Below w.heap.size w w' := by
  have H := hid h
  have HC := hid (check_any w n a c X h hl)
  by_cases h0 : Gr.check n X = 0
  · obtain ⟨n, rfl, hR⟩ := Right.of h0
    have HR := hid hR
    have hn := hR.1
    have hX := hR.2.1
    rw [h0] at HC
    have e1 : Hid (Gr.ordCode (n : Int) X = if (Gr.order X n).isSome then 0 else 11) := by show _ = _; unfold Gr.ordCode; rw [if_pos h0, Int.toNat_natCast]
    have e2 : Hid (Gr.ordList (n : Int) X = (Gr.order X n).getD []) := by show _ = _; unfold Gr.ordList; rw [if_pos h0, Int.toNat_natCast]
    generalize Gr.ordCode (n : Int) X = Y at *
    generalize Gr.ordList (n : Int) X = Z at *
    have KA := hid fun W hp => ahead_any W n a c X hp hR
    have KL := hid fun W a' c' l hp => least_any W n a' c' X l hp hn
    have KO := hid fun W k => only_any W k
    have hmk := run_make_nats n (by omega)
    have OM := hid fun W => made_nats W n (by unfold maxLen; omega)
    obtain ⟨M, hM⟩ : ∃ M, M = madeCells #[Value.int .i64 0] (n * 1) := ⟨_, rfl⟩
    rw [← hM] at hmk OM
    obtain ⟨i0, hi, hz0, hz1, hz2⟩ := info_parts int_info3
    clear h h0 hR hM
    go_enter Try.func17, Try.ntmps17
    go_wp2_with fail
    refine (HC.out).mono ?_
    rintro r w1 ⟨rfl, hb1⟩
    have B1 := hid hb1
    clear hb1 HC
    go_wp2_with fail
    refine (KA.out _ (H.out.below B1.out)).mono ?_
    rintro r w2 ⟨v2, rfl, ho2, hb2⟩
    obtain ⟨a2, c2, rfl, hp2, -⟩ := ho2.at_
    rw [show (Gr.aheads X n).length = n from Gr.row_len _ _]
    have B2 : Hid (Below w.heap.size w w2) := below_tr B1.out hb2
    have P2 := hid hp2
    have O0 := hid (OM.out w2)
    clear hb2 ho2 hp2 B1 KA OM
    go_wp2_with fail
    go_loopw [23, 8, 9] (fun i v p wr => ∃ (l : List Nat) (m : Nat), l.length + m = n ∧ i = .int .i64 (l.length : Int) ∧ p = .int .u64 ((Gr.mask (fun i => l.contains i) n : Nat) : Int) ∧ Hid (OwnNats wr w2.heap.size v l) ∧ Hid (Gr.ord X n m l = Gr.order X n) ∧ Hid (Below w2.heap.size w2 wr)) (fun i _ _ _ => n - (intOf i).toNat)
    case atStart => exact ⟨[], n, by simp, rfl, by rw [show (fun i => ([] : List Nat).contains i) = fun _ => false from by funext i; simp, Gr.mask_none]; rfl, O0, rfl, bx _ _⟩
    case round =>
      obtain ⟨l, m, hm, rfl, rfl, hO, hD, hb⟩ := hrel
      obtain ⟨q, hq⟩ : ∃ q, q = Gr.mask (fun i => l.contains i) n := ⟨_, rfl⟩
      have HL := hid (KL.out wr a2 c2 l (P2.out.below hb.out))
      rw [← hq] at HL ⊢
      have HQ0 := hid hq
      clear hq KL
      cases m with
      | succ m =>
        have k1 : (l.length : Int) < (n : Int) := by omega
        cases hN : Gr.next X n l with
        | none =>
          rw [hN] at HL
          have HE : Hid (Y = 11 ∧ Z = []) := by
            have := hD.out
            rw [Gr.ord_stuck hN] at this
            exact ⟨by rw [e1.out, ← this]; rfl, by rw [e2.out, ← this]; rfl⟩
          obtain ⟨y, hy⟩ : ∃ y, y = Gr.numOf none := ⟨_, rfl⟩
          rw [← hy] at HL
          have j1 : decide (y < 0) = true := by rw [hy]; rfl
          clear hN hD hO e1 e2 hy
          go_wp2_with fail
          refine (HL.out).mono ?_
          rintro r w3 ⟨rfl, hb3⟩
          go_wp2_with fail
          go_ret2
          exact ⟨_, by rw [HE.out.1]; rfl, by rw [HE.out.2]; exact OwnR.nil _ _, below_tr B2.out (below_tr hb.out hb3)⟩
        | some k =>
          rw [hN] at HL
          have hk := (Gr.next_some hN).1
          have hS : Hid (Gr.ord X n m (l ++ [k]) = Gr.order X n) := by show _ = _; rw [← Gr.ord_step hN]; exact hD.out
          have hor : bits .or .u64 (q : Int) ((2 ^ k : Nat) : Int) = ((Gr.mask (fun i => (l ++ [k]).contains i) n : Nat) : Int) := by
            rw [HQ0.out, u64_or_nat _ _ (Gr.mask_lt64 _ hn) (pow_lt64 (by omega)), Gr.mask_snoc l hk]
          have HQ := hid fun W => KO.out W k (by omega)
          obtain ⟨z, hz⟩ : ∃ z, z = 2 ^ k := ⟨_, rfl⟩
          rw [← hz] at hor HQ
          obtain ⟨q', hq'⟩ : ∃ q', q' = Gr.mask (fun i => (l ++ [k]).contains i) n := ⟨_, rfl⟩
          rw [← hq'] at hor
          have HQ' := hid hq'
          have j1 : decide ((k : Int) < 0) = false := by simp
          have hown1 : wr.ownsRow w2.heap.size 3 1 _ l.length (l.map nc) := hO.out
          have hbs := hb.out.size
          change Hid (Calls _ _ _ _ fun e w' => e = .returned (.int .i64 (k : Int)) ∧ _) at HL
          clear hN hD hO hz hq'
          go_wp2_with fail
          refine (HL.out).mono ?_
          rintro r w3 ⟨rfl, hb3⟩
          have hown3 : w3.ownsRow w2.heap.size 3 1 _ l.length (l.map nc) := OwnR.below (enc := nc) (X := l) hown1 hb3
          have B3 : Hid (Below w2.heap.size w2 w3) := below_tr hb.out hb3
          have hbs3 := B3.out.size
          clear hb3 HL hown1
          go_wp2_with (at_builtin; refine wpList_append_own _ rfl _ _ 31 rfl w2.heap.size 3 i0 (.int .i64 0) 1 8 Try.underlying31 hi hz0 hz1 hz2 rfl (by decide) _ _ _ rfl (hown3.alloc _) ⟨w3.heap.size, 0, none⟩ 1 1 [nc k] rfl rfl ?c1 ?c2 ?c3 ?c4 ?c5 ?_)
          case c1 => exact cell_one_new _ _ _
          case c2 => exact nats_one [k]
          case c3 => unfold maxLen; omega
          case c4 => omega
          case c5 => simp; omega
          intro v' w4 hown' hgrow hnil
          have O4 : Hid (OwnNats w4 w2.heap.size v' (l ++ [k])) := OwnR.grows hown'
          have B4 : Hid (Below w2.heap.size w2 w4) := (B3.out.alloc hbs3 _).grown hgrow (by rw [World.size_alloc]; omega) (fun b hb => (hown3.lt b hb).1)
          clear hown' hgrow hnil hown3 B3 hb
          go_wp2_with fail
          refine (HQ.out _).mono ?_
          rintro r w5 ⟨rfl, hb5⟩
          have O5 : Hid (OwnNats w5 w2.heap.size v' (l ++ [k])) := O4.out.below hb5
          have B5 : Hid (Below w2.heap.size w2 w5) := below_tr B4.out hb5
          clear hb5 O4 B4
          go_wp2_with fail
          go_roundw
          case rel => exact ⟨l ++ [k], m, by rw [List.length_append, List.length_singleton]; omega, by rw [List.length_append, List.length_singleton]; go_num, by rw [HQ'.out], O5, hS, B5⟩
          case measure => simp [intOf]; omega
      | zero =>
        have k1 : decide ((l.length : Int) < (n : Int)) = false := by simp; omega
        have HE : Hid (Y = 0 ∧ Z = l) := by
          have := hD.out
          exact ⟨by rw [e1.out, ← this]; rfl, by rw [e2.out, ← this]; rfl⟩
        clear hD e1 e2
        go_wp2_with fail
        go_ret2
        exact ⟨_, by rw [HE.out.1]; rfl, by rw [HE.out.2]; exact hO.out.lower (by have := B2.out.size; omega), below_tr B2.out hb.out⟩
  · have e1 : Gr.ordCode n X = Gr.check n X := if_neg h0
    have e2 : Gr.ordList n X = [] := if_neg h0
    rw [e1, e2]
    generalize Gr.check n X = Y at *
    have j1 : (Y != 0) = true := by simpa using h0
    clear h H h0 e1 e2
    go_enter Try.func17, Try.ntmps17
    go_wp2_with fail
    refine (HC.out).mono ?_
    rintro r w1 ⟨rfl, hb1⟩
    go_wp2_with fail
    go_ret2
    exact ⟨_, rfl, OwnR.nil _ _, hb1⟩
end Go.Proofs.Ytbgcldckgiiedaj.PGraph
