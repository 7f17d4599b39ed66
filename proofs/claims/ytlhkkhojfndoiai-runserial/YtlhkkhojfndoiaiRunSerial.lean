/- quirkeep.RunSerial, walked: it answers true, and nothing that was there has turned. Conditions: how many operations there are, that the capacity is no less. -/
import Derived.Test.YtlhkkhojfndoiaiRunSrl
import Derived.Test.YtlhkkhojfndoiaiRunLik
import Derived.Test.YtlhkkhojfndoiaiRunTurn
import Derived.Test.YtlhkkhojfndoiaiGraphCon
namespace Go.Proofs.Ytlhkkhojfndoiai.PRun
open Go Go.RowKit PPool PGraph
set_option maxRecDepth 100000

def rX : List Rn.Op := [⟨0, 2, 1⟩, ⟨1, 1, 1⟩, ⟨1, 3, 0⟩, ⟨0, 3, 0⟩]
theorem rX_serial : serE rX = 0 ∧ serL rX = [0, 1] := by decide +kernel
theorem serE_bad {X : List Rn.Op} (h : Rn.check X ≠ 0) : serE X = Rn.check X ∧ serL X = [] := by
  unfold serE serL; rw [if_neg h, if_neg h]; exact ⟨rfl, rfl⟩
theorem serE_some {X : List Rn.Op} (h : Rn.check X = 0) {L : List Nat} (ho : Gr.order (Rn.edges X) 12 = some L) : serE X = 0 ∧ serL X = L.filter (Rn.com X) := by
  unfold serE serL Rn.serial; rw [if_pos h, if_pos h, ho]; exact ⟨rfl, rfl⟩
theorem serE_none {X : List Rn.Op} (h : Rn.check X = 0) (ho : Gr.order (Rn.edges X) 12 = none) : serE X = 11 ∧ serL X = [] := by
  unfold serE serL Rn.serial; rw [if_pos h, if_pos h, ho]; exact ⟨rfl, rfl⟩
theorem two_nats (w : World) (T : TypeId) : NatsAt (w.alloc (.cells #[.int .i64 0, .int .i64 1] T)) (some ⟨w.heap.size, 0, none⟩) [0, 1] := fun j x hj => by
  refine ⟨_, _, rfl, ?_⟩
  rw [cell_of_row _ _ _ _ _ _ (heap_alloc_new w _)]
  match j, hj with
  | 0, hj => cases hj; rfl
  | 1, hj => cases hj; rfl
  | j + 2, hj => cases hj

/-- Each transaction, once. -/
structure EaAt (w W : World) (v : Value) (D : List Nat) : Prop where
  out : OwnNats W w.heap.size v D
  nd : D.Nodup
  lt : ∀ t ∈ D, t < 12
  bel : Below w.heap.size w W
theorem EaAt.nil (w : World) : EaAt w w (.slice none 0 0) [] := ⟨OwnR.nil _ _, by simp, by simp, Below.refl _ _⟩
theorem EaAt.below {w W W' : World} {v : Value} {D : List Nat} (h : EaAt w W v D) (hb : Below W.heap.size W W') : EaAt w W' v D := ⟨h.out.below hb, h.nd, h.lt, below_tr h.bel hb⟩
theorem EaAt.len {w W : World} {v : Value} {D : List Nat} (h : EaAt w W v D) : D.length ≤ 12 := (Gr.all_in 12 D h.nd h.lt).1
theorem EaAt.push {w W W' : World} {v v' : Value} {D : List Nat} {t : Nat} (h : EaAt w W v D) (hg : W.grownBy W' v.ownBlock) (ho : OwnNats W' w.heap.size v' (D ++ [t])) (ht : t < 12) (hD : D.contains t = false) : EaAt w W' v' (D ++ [t]) := by
  have hn : t ∉ D := fun hm => by rw [List.contains_iff_mem.2 hm] at hD; cases hD
  refine ⟨ho, ?_, fun u hu => ?_, h.bel.grown hg h.bel.size (fun b hb => (h.out.lt b hb).1)⟩
  · rw [List.nodup_append]
    refine ⟨h.nd, by simp, fun a ha b hb e => ?_⟩
    rw [List.mem_singleton.1 hb] at e
    exact hn (e ▸ ha)
  · rcases List.mem_append.1 hu with hu | hu
    · exact h.lt u hu
    · rw [List.mem_singleton.1 hu]; exact ht

set_option maxHeartbeats 8000000 in
theorem serial_walk (w : World) (a : Option Addr) (c : Nat) (X : List Rn.Op) (a' : Option Addr) (c' : Nat) (Z : List Int) (h : OpAt w a X) (hl : X.length * 24 ≤ 140737488351232) (hcap : X.length ≤ c) (hZ : RowAt (Value.int .i64) w a' Z) (_ : Z.length ≤ c') (_ : ∀ y ∈ Z, (Lit.int .i64 y).wf = true) (hZl : Z.length ≤ 9223372036854775807) :
    Calls Try.prog 3 #[.slice a X.length c, .slice a' Z.length c'] w fun e w' => e = .returned (.bool true) ∧ Below w.heap.size w w' := by
  have H := hid h
  have HZ := hid hZ
  have KO := hid fun W x k i => op_any W x k i
  have K1 := hid fun W b h => serial_any W b 4 rX h (by decide) (by decide)
  rw [rX_serial.1, rX_serial.2] at K1
  have KE := hid fun W a1 a2 c1 c2 h1 h2 => eqNats_any W a1 a2 c1 c2 [0, 1] [0, 1] h1 h2 (by decide)
  have K2 := hid fun W h => serial_any W a c X h (by omega) hcap
  have K3 := hid fun W h => comm_any W a c X h (by omega)
  clear h hZ
  go_enter Try.func3, Try.ntmps3
  go_wp2_with fail
  refine (KO.out w 0 2 1).mono ?_
  rintro r w1 ⟨rfl, hb1⟩
  have B1 := hid hb1
  clear hb1
  go_wp2_with fail
  refine (KO.out w1 1 1 1).mono ?_
  rintro r w2 ⟨rfl, hb2⟩
  have B2 : Hid (Below w.heap.size w w2) := below_tr B1.out hb2
  clear hb2 B1
  go_wp2_with fail
  refine (KO.out w2 1 3 0).mono ?_
  rintro r w3 ⟨rfl, hb3⟩
  have B3 : Hid (Below w.heap.size w w3) := below_tr B2.out hb3
  clear hb3 B2
  go_wp2_with fail
  refine (KO.out w3 0 3 0).mono ?_
  rintro r w4 ⟨rfl, hb4⟩
  have B4 : Hid (Below w.heap.size w w4) := below_tr B3.out hb4
  clear hb4 B3 KO
  go_wp2_with fail
  refine (K1.out _ _ (row_at w4 rX _ _ rfl)).mono ?_
  rintro r w5 ⟨v5, rfl, ho5, hb5⟩
  have B5 : Hid (Below w.heap.size w w5) := below_tr B4.out (below_tr (bx _ _) hb5)
  obtain ⟨a5, c5, rfl, hp5, -⟩ := ho5.at_
  have P5 := hid hp5
  clear hb5 B4 K1 ho5 hp5
  go_wp2_with fail
  refine (KE.out _ a5 (some ⟨w5.heap.size, 0, none⟩) c5 2 (P5.out.below (bx _ _)) (two_nats _ _)).mono ?_
  rintro r w6 ⟨rfl, hb6⟩
  have B6 : Hid (Below w.heap.size w w6) := below_tr B5.out (below_tr (bx _ _) hb6)
  clear hb6 P5 B5 KE
  go_wp2_with fail
  refine (K2.out _ (H.out.below B6.out)).mono ?_
  rintro r w7 ⟨v7, rfl, ho7, hb7⟩
  have B7 : Hid (Below w.heap.size w w7) := below_tr B6.out hb7
  obtain ⟨a7, c7, rfl, hp7, -⟩ := ho7.at_
  have P7 := hid hp7
  clear hb7 B6 K2 ho7 hp7
  go_wp2_with fail
  refine (K3.out _ (H.out.below B7.out)).mono ?_
  rintro r w8 ⟨v8, rfl, ho8, hb8⟩
  have B8 : Hid (Below w.heap.size w w8) := below_tr B7.out hb8
  obtain ⟨a8, c8, rfl, hp8, -, hc8, -⟩ := ho8.at_
  have P8 := hid hp8
  have P7 : Hid (NatsAt w8 a7 (serL X)) := P7.out.below hb8
  have hC8 := hc8
  clear hb8 B7 K3 ho8 hp8 hc8
  have hmlen : (commF X).length ≤ X.length := List.length_filter_le _ _
  by_cases hv : Rn.check X = 0
  rotate_left
  · obtain ⟨e1, e2⟩ := serE_bad hv
    have hle := Rn.check_le X
    rw [e1, e2]
    generalize Rn.check X = v at *
    have hv0 : (v == 0) = false := by simpa using hv
    have hv1 : (v != 11) = true := by simp; omega
    clear hv e1 e2 P7 P8
    go_wp2_with fail
    go_ret
    exact ⟨rfl, B8.out⟩
  have hm := commF_comm hv
  rw [hm] at P8 hC8 hmlen ⊢
  clear hm
  have lm := (Rn.check_zero (Rn.comm_check hv)).1
  have KT := hid fun W b d s h1 h2 h3 h4 => turn_any W a8 b c8 d (Rn.comm X) s h1 h2 (by omega) h3 h4
  have KL := hid fun W b d Y h1 h2 h3 => like_any W a8 b c8 d (Rn.comm X) Y h1 h2 (by omega) h3 hC8
  cases ho : Gr.order (Rn.edges X) 12 with
  | some L =>
    obtain ⟨e1, e2⟩ := serE_some hv ho
    obtain ⟨q1, q2⟩ := Rn.serial_like hv ho
    have hnd : (L.filter (Rn.com X)).Nodup := (Gr.order_some ho).1.nd.sublist List.filter_sublist
    have hll : (L.filter (Rn.com X)).length ≤ 12 := by
      have := List.length_filter_le (Rn.com X) L
      have := (Gr.order_some ho).2
      omega
    have f1 : likeB (Rn.comm X) (Rn.turn (Rn.comm X) (L.filter (Rn.com X))) = true := by unfold likeB; rw [if_pos (Rn.comm_check hv), if_pos q2, q1]
    have f2 : likeE (Rn.comm X) (Rn.turn (Rn.comm X) (L.filter (Rn.com X))) = 0 := by unfold likeE; rw [if_pos (Rn.comm_check hv), q2]
    have KL := hid fun W b d h1 h2 => KL.out W b d (Rn.turn (Rn.comm X) (L.filter (Rn.com X))) h1 h2 (by have := (Rn.check_zero q2).1; omega)
    rw [f1, f2] at KL
    rw [e1, e2]
    rw [e2] at P7
    have KT := hid fun W h1 h2 => KT.out W a7 c7 (L.filter (Rn.com X)) h1 h2 hnd (by omega)
    clear e1 e2 q1 q2 hnd f1 f2 hv ho
    go_wp2_with fail
    refine (KT.out _ P8.out P7.out).mono ?_
    rintro r w9 ⟨v9, rfl, ho9, hb9⟩
    have B9 : Hid (Below w.heap.size w w9) := below_tr B8.out hb9
    obtain ⟨a9, c9, rfl, hp9, -⟩ := ho9.at_
    have P9 := hid hp9
    have P8 : Hid (OpAt w9 a8 (Rn.comm X)) := P8.out.below hb9
    clear hb9 ho9 hp9 B8 P7 KT
    go_wp2_with fail
    refine (KL.out _ _ _ P8.out P9.out).mono ?_
    rintro r w10 ⟨rfl, hb10⟩
    have B10 := hid (below_tr B9.out hb10)
    clear hb10 P8 P9 KL
    go_wp2_with fail
    go_ret
    exact ⟨rfl, B10.out⟩
  | none =>
    obtain ⟨e1, e2⟩ := serE_none hv ho
    rw [e1, e2]
    have HLp := hid fun s hn hs => @Rn.loop_like X hv ho s hn hs
    have HCm := hid (Rn.comm_check hv)
    have KR := hid fun n W => rest_any n 12 W (by decide) (by decide)
    have KH := hid fun W b d l k h hn => hasNat_any W b d l k h hn
    obtain ⟨i0, hi, hz0, hz1, hz3⟩ := info_parts int_info3
    clear e1 e2 hv ho P7
    go_wp2_with fail
    go_loopw [13, 15, 16, 67] (fun v _ _ i wr => ∃ (k : Nat) (V : Value) (D : List Nat), k ≤ Z.length ∧ V = v ∧ i = .int .i64 (k : Int) ∧ Hid (EaAt w8 wr V D)) (fun _ _ _ i _ => Z.length - (intOf i).toNat)
    case atStart => exact ⟨0, _, [], Nat.zero_le _, rfl, rfl, EaAt.nil _⟩
    case round =>
      obtain ⟨k, v, D, hk, rfl, rfl, hA⟩ := hrel
      by_cases hlt : k < Z.length
      · obtain ⟨z, hz⟩ : ∃ z, Z[k]? = some z := ⟨_, List.getElem?_eq_getElem hlt⟩
        obtain ⟨b', o', rfl, d1⟩ := (HZ.out.below (below_tr B8.out hA.out.bel)) k z hz
        have k0 : (0 : Int) ≤ (k : Int) := by omega
        have k1 : (k : Int) < (Z.length : Int) := by omega
        obtain ⟨t, ht⟩ : ∃ t : Nat, z % 12 = (t : Int) := ⟨(z % 12).toNat, by have := Int.emod_nonneg z (show (12 : Int) ≠ 0 by decide); omega⟩
        have t12 : t < 12 := by have := Int.emod_lt_of_pos z (show (0 : Int) < 12 by decide); omega
        have KR := hid fun W => KR.out z W
        rw [ht] at KR
        clear ht hz
        obtain ⟨a9, c9, rfl, hp9, -⟩ := hA.out.out.at_
        have P9 : Hid (NatsAt wr a9 D) := hp9
        have KH := hid fun W h => KH.out W a9 c9 D t h (by have := hA.out.len; omega)
        clear hp9
        go_wp2_with fail
        refine (KR.out _).mono ?_
        rintro r wx ⟨rfl, rfl⟩
        go_wp2_with fail
        refine (KH.out _ P9.out).mono ?_
        rintro r w9 ⟨rfl, hb9⟩
        have A9 := hid (hA.out.below hb9)
        have P8' := hid hb9
        clear hb9 hA KR KH P9 d1
        cases hD : D.contains t with
        | true =>
          go_wp2_with fail
          go_roundw
          case rel => exact ⟨k + 1, _, D, by omega, rfl, by go_num, A9⟩
          case measure => simp [intOf]; omega
        | false =>
          have hlen := A9.out.len
          have A10 : ∀ o, Hid (EaAt w8 (w9.alloc o) (.slice a9 D.length c9) D) := fun o => A9.out.below (bx _ _)
          have HD := hid hD
          clear A9 hD
          go_wp2_with (at_builtin; refine wpList_append_own _ rfl _ _ 23 rfl w8.heap.size 3 i0 (.int .i64 0) 1 8 Try.underlying23 hi hz0 hz1 hz3 rfl (by decide) _ _ _ rfl (A10 _).out.out ⟨w9.heap.size, 0, none⟩ 1 1 [nc t] rfl rfl ?c1 ?c2 ?c3 ?c4 ?c5 ?_)
          case c1 =>
            intro q u hu
            rw [Addr.add_mid]
            exact (cell_of_row _ _ _ _ _ _ (heap_alloc_new w9 _)).trans (by simpa using hu)
          case c2 => exact nats_one [t]
          case c3 => unfold maxLen; omega
          case c4 => omega
          case c5 => exact (A10 _).out.bel.size
          intro v' w10 ho10 hg10 hnil10
          have A11 : Hid (EaAt w8 w10 v' (D ++ [t])) := (A10 _).out.push hg10 (OwnR.grows ho10) t12 HD.out
          clear ho10 hg10 hnil10 A10
          go_wp2_with fail
          go_roundw
          case rel => exact ⟨k + 1, v', D ++ [t], by omega, rfl, by go_num, A11⟩
          case measure => simp [intOf]; omega
      · obtain rfl : k = Z.length := by omega
        have j3 : decide ((Z.length : Int) < (Z.length : Int)) = false := by simp
        obtain ⟨wk, hwk⟩ : ∃ wk, wk = wr := ⟨_, rfl⟩
        rw [← hwk] at hA ⊢
        clear hwk
        go_wp2_with fail
        go_loopw [13, 17, 82] (fun v _ i wr => ∃ (j : Nat) (V : Value) (D : List Nat), j ≤ 12 ∧ V = v ∧ i = .int .i64 (j : Int) ∧ Hid (EaAt w8 wr V D) ∧ Hid (∀ t, t < j → t ∈ D)) (fun _ _ i _ => 12 - (intOf i).toNat)
        case atStart => exact ⟨0, v, D, Nat.zero_le _, rfl, rfl, hA, fun t ht => by omega⟩
        case round =>
          clear hA
          obtain ⟨j, v, D, hj, rfl, rfl, hA, hI⟩ := hrel
          by_cases hjk : j < 12
          · have j0 : (0 : Int) ≤ (j : Int) := by omega
            have j1 : (j : Int) < 12 := by omega
            obtain ⟨a9, c9, rfl, hp9, -⟩ := hA.out.out.at_
            have P9 : Hid (NatsAt wr a9 D) := hp9
            have KH := hid fun W h => KH.out W a9 c9 D j h (by have := hA.out.len; omega)
            clear hp9
            go_wp2_with fail
            refine (KH.out _ P9.out).mono ?_
            rintro r w9 ⟨rfl, hb9⟩
            have A9 := hid (hA.out.below hb9)
            clear hb9 hA KH P9
            cases hD : D.contains j with
            | true =>
              have hI2 : Hid (∀ t, t < j + 1 → t ∈ D) := fun t ht => by
                rcases Nat.lt_or_ge t j with h | h
                · exact hI.out t h
                · have e : t = j := by omega
                  rw [e]; exact List.contains_iff_mem.1 hD
              clear hI
              go_wp2_with fail
              go_roundw
              case rel => exact ⟨j + 1, _, D, by omega, rfl, by go_num, A9, hI2⟩
              case measure => simp [intOf]; omega
            | false =>
              have hlen := A9.out.len
              have A10 : ∀ o, Hid (EaAt w8 (w9.alloc o) (.slice a9 D.length c9) D) := fun o => A9.out.below (bx _ _)
              have HD := hid hD
              have hI2 : Hid (∀ t, t < j + 1 → t ∈ D ++ [j]) := fun t ht => by
                rcases Nat.lt_or_ge t j with h | h
                · exact List.mem_append.2 (.inl (hI.out t h))
                · have e : t = j := by omega
                  rw [e]; exact List.mem_append.2 (.inr (List.mem_singleton.2 rfl))
              clear A9 hD hI
              go_wp2_with (at_builtin; refine wpList_append_own _ rfl _ _ 23 rfl w8.heap.size 3 i0 (.int .i64 0) 1 8 Try.underlying23 hi hz0 hz1 hz3 rfl (by decide) _ _ _ rfl (A10 _).out.out ⟨w9.heap.size, 0, none⟩ 1 1 [nc j] rfl rfl ?c1 ?c2 ?c3 ?c4 ?c5 ?_)
              case c1 =>
                intro q u hu
                rw [Addr.add_mid]
                exact (cell_of_row _ _ _ _ _ _ (heap_alloc_new w9 _)).trans (by simpa using hu)
              case c2 => exact nats_one [j]
              case c3 => unfold maxLen; omega
              case c4 => omega
              case c5 => exact (A10 _).out.bel.size
              intro v' w10 ho10 hg10 hnil10
              have A11 : Hid (EaAt w8 w10 v' (D ++ [j])) := (A10 _).out.push hg10 (OwnR.grows ho10) hjk HD.out
              clear ho10 hg10 hnil10 A10
              go_wp2_with fail
              go_roundw
              case rel => exact ⟨j + 1, v', D ++ [j], by omega, rfl, by go_num, A11, hI2⟩
              case measure => simp [intOf]; omega
          · obtain rfl : j = 12 := by omega
            obtain ⟨a9, c9, rfl, hp9, -⟩ := hA.out.out.at_
            have P9 : Hid (NatsAt wr a9 D) := hp9
            have B9 : Hid (Below w.heap.size w wr) := below_tr B8.out hA.out.bel
            obtain ⟨q1, q2⟩ := HLp.out D hA.out.nd hI.out
            have f1 : likeB (Rn.comm X) (Rn.turn (Rn.comm X) D) = false := by unfold likeB; rw [if_pos HCm.out, if_pos q2, q1]
            have f2 : likeE (Rn.comm X) (Rn.turn (Rn.comm X) D) = 0 := by unfold likeE; rw [if_pos HCm.out, q2]
            have KL := hid fun W b d h1 h2 => KL.out W b d (Rn.turn (Rn.comm X) D) h1 h2 (by have := (Rn.check_zero q2).1; omega)
            rw [f1, f2] at KL
            have KT := hid fun W h1 h2 => KT.out W a9 c9 D h1 h2 hA.out.nd (by have := hA.out.len; omega)
            have P8 : Hid (OpAt wr a8 (Rn.comm X)) := P8.out.below hA.out.bel
            clear q1 q2 f1 f2 hA hI hp9
            go_wp2_with fail
            refine (KT.out _ P8.out P9.out).mono ?_
            rintro r w10 ⟨v10, rfl, ho10, hb10⟩
            have B10 : Hid (Below w.heap.size w w10) := below_tr B9.out hb10
            obtain ⟨a10, c10, rfl, hp10, -⟩ := ho10.at_
            have P10 := hid hp10
            have P8 : Hid (OpAt w10 a8 (Rn.comm X)) := P8.out.below hb10
            clear hb10 ho10 hp10 B9 P9 KT
            go_wp2_with fail
            refine (KL.out _ _ _ P8.out P10.out).mono ?_
            rintro r w11 ⟨rfl, hb11⟩
            have B11 := hid (below_tr B10.out hb11)
            clear hb11 P8 P10 KL
            go_wp2_with fail
            go_ret
            exact ⟨rfl, B11.out⟩
end Go.Proofs.Ytlhkkhojfndoiai.PRun
