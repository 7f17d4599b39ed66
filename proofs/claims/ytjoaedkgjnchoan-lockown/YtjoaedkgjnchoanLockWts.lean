/- lock.Waits, walked: what is wrong of the table, or nothing wrong and the edges of who waits for whom; nothing that was there has turned. Conditions: a table that lies where its slice says. -/
import Derived.Test.YtjoaedkgjnchoanLockCk
import Derived.Test.YtjoaedkgjnchoanLockWt
import Derived.Test.YtjoaedkgjnchoanGraphMem
namespace Go.Proofs.Ytjoaedkgjnchoan.PLock
open Go Go.RowKit PPool PGraph
set_option maxRecDepth 100000
attribute [local go_sem ↓] loadP_pre storeP_pre

def waitsOf (T : List Lk.It) : List Gr.Ed := if Lk.check T = 0 then Lk.waits T else []
/-- How all stands while the edges are told. -/
structure WsAt (w W : World) (N : Nat) (R : Nat → Nat → Bool) (v : Value) (L : List Gr.Ed) : Prop where
  ah : ArrAt W N (pA R)
  out : OwnPg W (N + 1) v L
  bel : Below w.heap.size w W
  lo : w.heap.size ≤ N
theorem WsAt.below {w W W' : World} {N : Nat} {R : Nat → Nat → Bool} {v : Value} {L : List Gr.Ed} (h : WsAt w W N R v L) (hb : Below W.heap.size W W') : WsAt w W' N R v L := ⟨h.ah.below hb, h.out.below hb, below_tr h.bel hb, h.lo⟩
theorem WsAt.grown {w W W' : World} {N : Nat} {R : Nat → Nat → Bool} {v v' : Value} {L L' : List Gr.Ed} (h : WsAt w W N R v L) (hg : W.grownBy W' v.ownBlock) (ho : OwnPg W' (N + 1) v' L') : WsAt w W' N R v' L' := by
  have hlo : ∀ b, v.ownBlock = some b → N + 1 ≤ b := fun b hb => (h.out.lt b hb).1
  have hw := h.lo
  have keep : ∀ b, b < W.heap.size → b ≤ N → W'.heap[b]? = W.heap[b]? := fun b hb hn => hg.block b hb (fun e => by have := hlo b e.symm; omega)
  refine ⟨h.ah.keep (keep _ (ArrAt.lt h.ah) (Nat.le_refl _)), ho, ?_, h.lo⟩
  exact h.bel.grown hg h.bel.size (fun b hb => by have := hlo b hb; omega)

set_option maxHeartbeats 4000000 in
theorem waits_any (w : World) (a : Option Addr) (c : Nat) (T : List Lk.It) (h : TbAt w a T) (hl : T.length ≤ 9223372036854775807) :
    Calls Try.prog 26 #[.slice a T.length c] w fun e w' => ∃ v, e = .returned (.tuple #[v, .int .i64 (Lk.check T)]) ∧ OwnPg w' w.heap.size v (waitsOf T) ∧ Below w.heap.size w w' := by
  have H := hid h
  have K1 := hid (check_any w a c T h hl)
  by_cases hv : Lk.check T = 0
  rotate_left
  · have e1 : waitsOf T = [] := by unfold waitsOf; rw [if_neg hv]
    rw [e1]
    generalize Lk.check T = v at *
    have hv0 : (v != 0) = true := by simpa using hv
    clear hv e1 h
    go_enter Try.func26, Try.ntmps26
    go_wp2_with fail
    refine (K1.out).mono ?_
    rintro r w1 ⟨rfl, hb1⟩
    go_wp2_with fail
    go_ret2
    exact ⟨_, rfl, OwnPg.nil _ _, hb1⟩
  have e1 : waitsOf T = Lk.edgesTo (Lk.rel T) 12 0 := by unfold waitsOf; rw [if_pos hv]; rfl
  rw [e1, hv]
  rw [hv] at K1
  have hgd := Lk.check_zero.1 hv
  have KA := hid fun W h => allWaits_any W a c T h hgd
  have hz2 := (zero_of_info pairs_info).1
  obtain ⟨i0, hi, hz0, hz1, hz3⟩ := info_parts edge_info
  clear hv e1 h hgd
  go_enter Try.func26, Try.ntmps26
  go_wp2_with fail
  refine (K1.out).mono ?_
  rintro r w1 ⟨rfl, hb1⟩
  have B1 := hid hb1
  clear hb1 K1
  go_wp2_with fail
  refine (KA.out _ (H.out.below B1.out)).mono ?_
  rintro r w2 ⟨rfl, hb2⟩
  have B2 : Hid (Below w.heap.size w w2) := below_tr B1.out hb2
  clear hb2 B1 KA
  obtain ⟨R, hR⟩ : ∃ R, R = Lk.rel T := ⟨_, rfl⟩
  have HRR := hid hR
  rw [← hR]
  clear hR
  obtain ⟨N, hN⟩ : ∃ N, N = w2.heap.size := ⟨_, rfl⟩
  have st1 : ∀ T : TypeId, (storeP (.pointer (some ⟨w2.heap.size, 0, none⟩)) (.agg (pA R))).run Try.prog (w2.alloc (.cells (pA fun _ _ => false) T)) = .ok () (w2.alloc (.cells (pA R) T)) := fun T => by
    have e := World.setRow_alloc_new w2 (pA fun _ _ => false) (pA R) T
    rw [← e]
    exact run_storeP (ArrAt.new w2 _ T)
  have A0 : ∀ T, Hid (WsAt w (w2.alloc (.cells (pA R) T)) N R (.slice none 0 0) (Lk.edgesTo R 0 0)) := fun T => by
    refine ⟨?_, by rw [Lk.edgesTo_start]; exact OwnPg.nil _ _, below_tr B2.out (bx _ _), by rw [hN]; exact B2.out.size⟩
    rw [hN]; exact ArrAt.new w2 _ T
  go_wp2_with fail
  rw [← hN]
  clear st1 hN
  go_loopw [6, 7, 16] (fun v _ i wr => ∃ (k : Nat) (V : Value), k ≤ 12 ∧ V = v ∧ i = .int .i64 (k : Int) ∧ Hid (WsAt w wr N R V (Lk.edgesTo R k 0))) (fun _ _ i _ => 12 - (intOf i).toNat)
  case atStart => exact ⟨0, _, Nat.zero_le _, rfl, rfl, A0 _⟩
  case round =>
    clear A0
    obtain ⟨k, v, hk, rfl, rfl, hA⟩ := hrel
    by_cases hlt : k < 12
    · have k0 : (0 : Int) ≤ (k : Int) := by omega
      have k1 : (k : Int) < 12 := by omega
      obtain ⟨wk, hwk⟩ : ∃ wk, wk = wr := ⟨_, rfl⟩
      rw [← hwk] at hA ⊢
      clear hwk
      go_wp2_with fail
      go_loopw [6, 8, 19] (fun v _ i wr => ∃ (j : Nat) (V : Value), j ≤ 12 ∧ V = v ∧ i = .int .i64 (j : Int) ∧ Hid (WsAt w wr N R V (Lk.edgesTo R k j))) (fun _ _ i _ => 12 - (intOf i).toNat)
      case atStart => exact ⟨0, v, Nat.zero_le _, rfl, rfl, hA⟩
      case round =>
        clear hA
        obtain ⟨j, v, hj, rfl, rfl, hA⟩ := hrel
        by_cases hjk : j < 12
        · have j0 : (0 : Int) ≤ (j : Int) := by omega
          have j1 : (j : Int) < 12 := by omega
          have HN := hid (fun h => @Lk.edge_next R k j h)
          have HS := hid (fun h => @Lk.edge_skip R k j h)
          have q1 := hA.out.ah.cell (pA_at R hlt hjk)
          have hlen := Lk.edgesTo_len R k j
          obtain ⟨A, hAe⟩ : ∃ A, A = R k j := ⟨_, rfl⟩
          obtain ⟨L, hL⟩ : ∃ L, L = Lk.edgesTo R k j := ⟨_, rfl⟩
          rw [← hAe] at q1 HN HS
          rw [← hL] at hA HN HS hlen
          clear hAe hL
          cases A with
          | false =>
            have HF := hid (HS.out rfl)
            clear HN HS
            go_wp2_with fail
            go_roundw
            case rel => first
              | exact ⟨j + 1, v, by omega, rfl, by go_num, by rw [HF.out]; exact hA⟩
              | ((repeat apply Exists.intro); exact ⟨⟨j + 1, v, by omega, rfl, by go_num, by rw [HF.out]; exact hA⟩, rfl⟩)
            case measure => simp [intOf]; omega
          | true =>
            have HF : Hid (Lk.edgesTo R k (j + 1) = L ++ [⟨(k : Int), (j : Int)⟩]) := HN.out rfl
            have A6 : ∀ o, Hid (WsAt w (wr.alloc o) N R v L) := fun o => hA.out.below (bx _ _)
            clear HN HS hA
            go_wp2_with (at_builtin; refine wpList_append_own _ rfl _ _ 71 rfl (N + 1) 103 i0 (.agg #[.int .i64 0, .int .i64 0]) 2 16 Try.underlying71 hi hz0 hz1 hz3 rfl (by decide) _ _ _ rfl (A6 _).out.out ⟨wr.heap.size, 0, none⟩ 1 1 (sc ⟨(k : Int), (j : Int)⟩) rfl rfl ?c1 ?c2 ?c3 ?c4 ?c5 ?_)
            case c1 =>
              intro q u hu
              rw [Addr.add_mid]
              exact (cell_of_row _ _ _ _ _ _ (heap_alloc_new wr _)).trans (by simpa [sc] using hu)
            case c2 => exact sc_one _
            case c3 => unfold maxLen; omega
            case c4 => omega
            case c5 =>
              have := ArrAt.lt (A6 (.cells #[.int .i64 (k : Int), .int .i64 (j : Int)] 103)).out.ah
              omega
            intro v' w6 ho6 hg6 hnil6
            have A7 : Hid (WsAt w w6 N R v' (Lk.edgesTo R k (j + 1))) := by
              rw [HF.out]; exact (A6 _).out.grown hg6 (OwnPg.grows ho6)
            clear ho6 hg6 hnil6 A6 HF
            go_wp2_with fail
            go_roundw
            case rel => first
              | exact ⟨j + 1, v', by omega, rfl, by go_num, A7⟩
              | ((repeat apply Exists.intro); exact ⟨⟨j + 1, v', by omega, rfl, by go_num, A7⟩, rfl⟩)
            case measure => simp [intOf]; omega
        · obtain rfl : j = 12 := by omega
          have hF : Hid (WsAt w wr N R v (Lk.edgesTo R (k + 1) 0)) := by rw [Lk.edgesTo_round]; exact hA
          clear hA
          go_wp2_with fail
          go_roundw
          case rel => first
            | exact ⟨k + 1, v, by omega, rfl, by go_num, hF⟩
            | ((repeat apply Exists.intro); exact ⟨⟨k + 1, v, by omega, rfl, by go_num, hF⟩, rfl⟩)
          case measure => simp [intOf]; omega
    · obtain rfl : k = 12 := by omega
      have hO : Hid (OwnPg wr w.heap.size v (Lk.edgesTo (Lk.rel T) 12 0)) := by have := hA.out.out.lower (base' := w.heap.size) (by have := hA.out.lo; omega); rw [← HRR.out]; exact this
      have hB := hid hA.out.bel
      clear hA
      go_wp2_with fail
      go_ret2
      exact ⟨_, rfl, hO.out, hB.out⟩
end Go.Proofs.Ytjoaedkgjnchoan.PLock
