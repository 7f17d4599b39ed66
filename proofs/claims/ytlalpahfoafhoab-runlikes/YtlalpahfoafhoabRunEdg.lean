/- run.Edges, walked: it answers the edges that the plain words tell, and nothing that was there has turned. Conditions: the operations lie where their slice says; the capacity is no less than the length. -/
import Derived.Test.YtlalpahfoafhoabRunAhd
import Derived.Test.YtlalpahfoafhoabRunCk
import Derived.Deep.RegionHeld3
namespace Go.Proofs.Ytlalpahfoafhoab.PRun
open Go Go.RowKit PPool PGraph
set_option maxRecDepth 100000
attribute [local go_sem ↓] loadE_pre storeE_pre loadP_pre storeP_pre

def edgesOf (X : List Rn.Op) : List Gr.Ed := if Rn.check X = 0 then Rn.edges X else []
theorem edges_row (X : List Rn.Op) : Rn.edgesTo X 12 0 = Rn.edges X := rfl
/-- How all stands while the edges are told. -/
structure EdAt (w W : World) (N M : Nat) (X : List Rn.Op) (v : Value) (L : List Gr.Ed) : Prop where
  ah : ArrAt W N (pA (Rn.ahead X))
  en : ArrAt W M (eA (Rn.ends X))
  out : OwnPg W (M + 1) v L
  bel : Below w.heap.size w W
  lo : w.heap.size ≤ N
  lt : N < M
theorem EdAt.below {w W W' : World} {N M : Nat} {X : List Rn.Op} {v : Value} {L : List Gr.Ed} (h : EdAt w W N M X v L) (hb : Below W.heap.size W W') : EdAt w W' N M X v L := ⟨h.ah.below hb, h.en.below hb, h.out.below hb, below_tr h.bel hb, h.lo, h.lt⟩
theorem EdAt.grown {w W W' : World} {N M : Nat} {X : List Rn.Op} {v v' : Value} {L L' : List Gr.Ed} (h : EdAt w W N M X v L) (hg : W.grownBy W' v.ownBlock) (ho : OwnPg W' (M + 1) v' L') : EdAt w W' N M X v' L' := by
  have hlo : ∀ b, v.ownBlock = some b → M + 1 ≤ b := fun b hb => (h.out.lt b hb).1
  have hlt := h.lt
  have hw := h.lo
  have keep : ∀ b, b < W.heap.size → b ≤ M → W'.heap[b]? = W.heap[b]? := fun b hb hn => hg.block b hb (fun e => by have := hlo b e.symm; omega)
  refine ⟨h.ah.keep (keep _ (ArrAt.lt h.ah) (by omega)), h.en.keep (keep _ (ArrAt.lt h.en) (by omega)), ho, ?_, h.lo, h.lt⟩
  exact h.bel.grown hg h.bel.size (fun b hb => by have := hlo b hb; omega)
theorem edge_next (X : List Rn.Op) (i j : Nat) (h : Rn.edge X i j = true) : Rn.edgesTo X i (j + 1) = Rn.edgesTo X i j ++ [Gr.ed i j] := by rw [Rn.edgesTo_next, if_pos h]
theorem edge_skip (X : List Rn.Op) (i j : Nat) (h : Rn.edge X i j = false) : Rn.edgesTo X i (j + 1) = Rn.edgesTo X i j := by rw [Rn.edgesTo_next, if_neg (by rw [h]; exact Bool.false_ne_true), List.append_nil]

set_option maxHeartbeats 4000000 in
theorem edges_any (w : World) (a : Option Addr) (c : Nat) (X : List Rn.Op) (h : OpAt w a X) (hl : X.length ≤ 9223372036854775807) (hcap : X.length ≤ c) :
    Calls Try.prog 31 #[.slice a X.length c] w fun e w' => ∃ v, e = .returned (.tuple #[v, .int .i64 (Rn.check X)]) ∧ OwnPg w' w.heap.size v (edgesOf X) ∧ Below w.heap.size w w' := by
  have H := hid h
  have K1 := hid (check_any w a c X h hl)
  by_cases hv : Rn.check X = 0
  rotate_left
  · have e1 : edgesOf X = [] := by unfold edgesOf; rw [if_neg hv]
    rw [e1]
    generalize Rn.check X = v at *
    have hv0 : (v != 0) = true := by simpa using hv
    clear hv e1 h
    go_enter Try.func31, Try.ntmps31
    go_wp2_with fail
    refine (K1.out).mono ?_
    rintro r w1 ⟨rfl, hb1⟩
    go_wp2_with fail
    go_ret2
    exact ⟨_, rfl, OwnPg.nil _ _, hb1⟩
  have e1 : edgesOf X = Rn.edges X := by unfold edgesOf; rw [if_pos hv]
  rw [e1, hv]
  rw [hv] at K1
  have lx := (Rn.check_zero hv).1
  have gX : ∀ o ∈ X, 0 ≤ o.x ∧ o.x < 12 := fun o ho => ⟨(Rn.good_mem hv ho).x0, (Rn.good_mem hv ho).x1⟩
  have KA := hid fun W h => allAhead_any W a c X h lx hcap gX
  have KE := hid fun W h => endsOf_any W a c X h hl gX
  have KM := hid fun W t ht => committed_any W (Rn.ends X) t ht
  have hz := (zero_of_info ends_info).1
  have hz2 := (zero_of_info pairs_info).1
  obtain ⟨i0, hi, hz0, hz1, hz3⟩ := info_parts edge_info
  clear hv e1 gX h
  go_enter Try.func31, Try.ntmps31
  go_wp2_with fail
  refine (K1.out).mono ?_
  rintro r w1 ⟨rfl, hb1⟩
  have B1 := hid hb1
  clear hb1 K1
  go_wp2_with fail
  refine (KA.out _ (H.out.below B1.out)).mono ?_
  rintro r w2 ⟨rfl, hb2⟩
  have B2 : Hid (Below w.heap.size w w2) := below_tr B1.out hb2
  clear hb2 B1 KA
  obtain ⟨N, hN⟩ : ∃ N, N = w2.heap.size := ⟨_, rfl⟩
  have st1 : ∀ T : TypeId, (storeP (.pointer (some ⟨w2.heap.size, 0, none⟩)) (.agg (pA (Rn.ahead X)))).run Try.prog (w2.alloc (.cells (pA fun _ _ => false) T)) = .ok () (w2.alloc (.cells (pA (Rn.ahead X)) T)) := fun T => by
    have e := World.setRow_alloc_new w2 (pA fun _ _ => false) (pA (Rn.ahead X)) T
    rw [← e]
    exact run_storeP (ArrAt.new w2 _ T)
  go_wp2_with fail
  refine (KE.out _ (H.out.below (below_tr B2.out (bx _ _)))).mono ?_
  rintro r w3 ⟨rfl, hb3⟩
  obtain ⟨M, hM⟩ : ∃ M, M = w3.heap.size := ⟨_, rfl⟩
  have hNM : N < M := by have := hb3.size; rw [hN, hM]; simp at this; omega
  have st2 : ∀ T : TypeId, (storeE (.pointer (some ⟨w3.heap.size, 0, none⟩)) (.agg (eA (Rn.ends X)))).run Try.prog (w3.alloc (.cells (eA fun _ => 0) T)) = .ok () (w3.alloc (.cells (eA (Rn.ends X)) T)) := fun T => by
    have e := World.setRow_alloc_new w3 (eA fun _ => 0) (eA (Rn.ends X)) T
    rw [← e]
    exact run_storeE (ArrAt.new w3 _ T)
  have A0 : ∀ T, Hid (EdAt w (w3.alloc (.cells (eA (Rn.ends X)) T)) N M X (.slice none 0 0) (Rn.edgesTo X 0 0)) := fun T => by
    refine ⟨?_, ?_, by rw [Rn.edgesTo_start]; exact OwnPg.nil _ _, below_tr B2.out (below_tr (bx _ _) (below_tr hb3 (bx _ _))), by rw [hN]; exact B2.out.size, hNM⟩
    · rw [hN]; exact ((ArrAt.new w2 (pA (Rn.ahead X)) 132).below hb3).below (bx _ _)
    · rw [hM]; exact ArrAt.new w3 _ T
  clear hb3
  go_wp2_with fail
  rw [← hN, ← hM]
  clear st1 st2 hN hM
  go_loopw [7, 8, 9, 19] (fun v _ _ i wr => ∃ (k : Nat) (V : Value), k ≤ 12 ∧ V = v ∧ i = .int .i64 (k : Int) ∧ Hid (EdAt w wr N M X V (Rn.edgesTo X k 0))) (fun _ _ _ i _ => 12 - (intOf i).toNat)
  case atStart => exact ⟨0, _, Nat.zero_le _, rfl, rfl, A0 _⟩
  case round =>
    clear A0
    obtain ⟨k, v, hk, rfl, rfl, hA⟩ := hrel
    by_cases hlt : k < 12
    · have k0 : (0 : Int) ≤ (k : Int) := by omega
      have k1 : (k : Int) < 12 := by omega
      obtain ⟨wk, hwk⟩ : ∃ wk, wk = wr := ⟨_, rfl⟩
      rw [← hwk] at hA ⊢
      clear hwk
      go_wp2_with fail
      go_loopw [7, 9, 22] (fun v _ i wr => ∃ (j : Nat) (V : Value), j ≤ 12 ∧ V = v ∧ i = .int .i64 (j : Int) ∧ Hid (EdAt w wr N M X V (Rn.edgesTo X k j))) (fun _ _ i _ => 12 - (intOf i).toNat)
      case atStart => exact ⟨0, v, Nat.zero_le _, rfl, rfl, hA⟩
      case round =>
        clear hA
        obtain ⟨j, v, hj, rfl, rfl, hA⟩ := hrel
        by_cases hjk : j < 12
        · have j0 : (0 : Int) ≤ (j : Int) := by omega
          have j1 : (j : Int) < 12 := by omega
          have HN := hid (edge_next X k j)
          have HS := hid (edge_skip X k j)
          have HE : Hid (Rn.edge X k j = (Rn.ahead X k j && decide (Rn.ends X k = 3) && decide (Rn.ends X j = 3))) := rfl
          have KI := hid fun W => KM.out W k hlt
          have KJ := hid fun W => KM.out W j hjk
          have q1 := hA.out.ah.cell (pA_at (Rn.ahead X) hlt hjk)
          have hlen := Rn.edgesTo_len X k j (by omega) (by omega)
          obtain ⟨A, hAe⟩ : ∃ A, A = Rn.ahead X k j := ⟨_, rfl⟩
          obtain ⟨ci, hci⟩ : ∃ A, A = decide (Rn.ends X k = 3) := ⟨_, rfl⟩
          obtain ⟨cj, hcj⟩ : ∃ A, A = decide (Rn.ends X j = 3) := ⟨_, rfl⟩
          obtain ⟨L, hL⟩ : ∃ L, L = Rn.edgesTo X k j := ⟨_, rfl⟩
          rw [← hAe] at q1 HE
          rw [← hci] at KI HE
          rw [← hcj] at KJ HE
          rw [← hL] at hA HN HS hlen
          clear hAe hci hcj hL
          have skip : Hid (A = false ∨ ci = false ∨ cj = false → Rn.edgesTo X k (j + 1) = L) := fun h => HS.out (by rw [HE.out]; rcases h with h | h | h <;> simp [h])
          clear HS
          cases A with
          | false =>
            have HF := hid (skip.out (.inl rfl))
            clear HN HE skip
            go_wp2_with fail
            go_roundw
            case rel => first
              | exact ⟨j + 1, v, by omega, rfl, by go_num, by rw [HF.out]; exact hA⟩
              | ((repeat apply Exists.intro); exact ⟨⟨j + 1, v, by omega, rfl, by go_num, by rw [HF.out]; exact hA⟩, rfl⟩)
            case measure => simp [intOf]; omega
          | true =>
            have l6 := run_loadE hA.out.en
            go_wp2_with fail
            refine (KI.out _).mono ?_
            rintro r w4 ⟨rfl, hb4⟩
            have A4 : Hid (EdAt w w4 N M X v L) := hA.out.below hb4
            clear hA hb4 l6 q1
            cases ci with
            | false =>
              have HF := hid (skip.out (.inr (.inl rfl)))
              clear HN HE skip
              go_wp2_with fail
              go_roundw
              case rel => first
                | exact ⟨j + 1, v, by omega, rfl, by go_num, by rw [HF.out]; exact A4⟩
                | ((repeat apply Exists.intro); exact ⟨⟨j + 1, v, by omega, rfl, by go_num, by rw [HF.out]; exact A4⟩, rfl⟩)
              case measure => simp [intOf]; omega
            | true =>
              have l6 := run_loadE A4.out.en
              go_wp2_with fail
              refine (KJ.out _).mono ?_
              rintro r w5 ⟨rfl, hb5⟩
              have A5 : Hid (EdAt w w5 N M X v L) := A4.out.below hb5
              clear A4 hb5 l6
              cases cj with
              | false =>
                have HF := hid (skip.out (.inr (.inr rfl)))
                clear HN HE skip
                go_wp2_with fail
                go_roundw
                case rel => first
                  | exact ⟨j + 1, v, by omega, rfl, by go_num, by rw [HF.out]; exact A5⟩
                  | ((repeat apply Exists.intro); exact ⟨⟨j + 1, v, by omega, rfl, by go_num, by rw [HF.out]; exact A5⟩, rfl⟩)
                case measure => simp [intOf]; omega
              | true =>
                have HF : Hid (Rn.edgesTo X k (j + 1) = L ++ [⟨(k : Int), (j : Int)⟩]) := HN.out (by rw [HE.out]; rfl)
                have A6 : ∀ o, Hid (EdAt w (w5.alloc o) N M X v L) := fun o => A5.out.below (bx _ _)
                clear HN HE skip A5
                go_wp2_with (at_builtin; refine wpList_append_own _ rfl _ _ 65 rfl (M + 1) 79 i0 (.agg #[.int .i64 0, .int .i64 0]) 2 16 Try.underlying65 hi hz0 hz1 hz3 rfl (by decide) _ _ _ rfl (A6 _).out.out ⟨w5.heap.size, 0, none⟩ 1 1 (sc ⟨(k : Int), (j : Int)⟩) rfl rfl ?c1 ?c2 ?c3 ?c4 ?c5 ?_)
                case c1 =>
                  intro q u hu
                  rw [Addr.add_mid]
                  exact (cell_of_row _ _ _ _ _ _ (heap_alloc_new w5 _)).trans (by simpa [sc] using hu)
                case c2 => exact sc_one _
                case c3 => unfold maxLen; omega
                case c4 => omega
                case c5 =>
                  have := ArrAt.lt (A6 (.cells #[.int .i64 (k : Int), .int .i64 (j : Int)] 79)).out.en
                  omega
                intro v' w6 ho6 hg6 hnil6
                have A7 : Hid (EdAt w w6 N M X v' (Rn.edgesTo X k (j + 1))) := by
                  rw [HF.out]; exact (A6 _).out.grown hg6 (OwnPg.grows ho6)
                clear ho6 hg6 hnil6 A6 HF
                go_wp2_with fail
                go_roundw
                case rel => first
                  | exact ⟨j + 1, v', by omega, rfl, by go_num, A7⟩
                  | ((repeat apply Exists.intro); exact ⟨⟨j + 1, v', by omega, rfl, by go_num, A7⟩, rfl⟩)
                case measure => simp [intOf]; omega
        · obtain rfl : j = 12 := by omega
          have hF : Hid (EdAt w wr N M X v (Rn.edgesTo X (k + 1) 0)) := by rw [← Rn.edgesTo_round]; exact hA
          clear hA
          go_wp2_with fail
          go_roundw
          case rel => first
            | exact ⟨k + 1, v, by omega, rfl, by go_num, hF⟩
            | ((repeat apply Exists.intro); exact ⟨⟨k + 1, v, by omega, rfl, by go_num, hF⟩, rfl⟩)
          case measure => simp [intOf]; omega
    · obtain rfl : k = 12 := by omega
      have hO : Hid (OwnPg wr w.heap.size v (Rn.edges X)) := by have := hA.out.out.lower (base' := w.heap.size) (by have := hA.out.lo; have := hA.out.lt; omega); exact this
      have hB := hid hA.out.bel
      clear hA
      go_wp2_with fail
      go_ret2
      exact ⟨_, rfl, hO.out, hB.out⟩
end Go.Proofs.Ytlalpahfoafhoab.PRun
