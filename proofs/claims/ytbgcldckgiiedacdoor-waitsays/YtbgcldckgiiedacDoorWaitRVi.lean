/- quirref.Victims, walked: those that are taken, rising, in a row of its own; nothing that was there has turned. Conditions: a right graph. -/
import Derived.Test.YtbgcldckgiiedacDoorWaitDed
import Derived.Test.YtbgcldckgiiedacDoorWaitClo
import Derived.Test.YtbgcldckgiiedacDoorWaitDlF
import Derived.Test.YtbgcldckgiiedacDoorWaitSrt
import Derived.Test.YtbgcldckgiiedacDoorGraphClo
namespace Go.Proofs.YtbgcldckgiiedacDoor.PWait
open Go Go.RowKit PPool PGraph
set_option maxRecDepth 100000

/-- A box that holds a number. -/
def BoxAt (w : World) (g : Nat) (z : Int) : Prop := w.heap[g]? = some (.cells #[.int .i64 z] 3 (0, 0))
theorem BoxAt.cell {w : World} {g : Nat} {z : Int} (h : BoxAt w g z) : w.cell? ⟨g, 0, none⟩ = some (.int .i64 z) := by
  rw [cell_of_row w g _ _ _ _ h]; rfl
theorem BoxAt.fz {w : World} {g : Nat} {z : Int} (h : BoxAt w g z) : w.frozen? ⟨g, 0, none⟩ = false := by
  have := h; unfold BoxAt at this; simp [World.frozen?, this]
theorem BoxAt.set {w : World} {g : Nat} {z : Int} (h : BoxAt w g z) (x : Int) : BoxAt (w.setCell ⟨g, 0, none⟩ (.int .i64 x)) g x := by
  rw [setCell_eq_setRow w _ 0 _ 3 _ _ h]
  exact setRow_heap w g #[.int .i64 z] _ 3 _ h
theorem BoxAt.new (w : World) (z : Int) : BoxAt (w.alloc (.cells #[.int .i64 z] 3)) w.heap.size z := heap_alloc_new w _
theorem BoxAt.keep {w w' : World} {g : Nat} {z : Int} (h : BoxAt w g z) (e : w'.heap[g]? = w.heap[g]?) : BoxAt w' g z := e.trans h
theorem BoxAt.lt {w : World} {g : Nat} {z : Int} (h : BoxAt w g z) : g < w.heap.size := (Array.getElem?_eq_some_iff.1 h).1
theorem in_rgt {n : Nat} {X : List Gr.Ed} (hn : n ≤ 60) (hl : X.length ≤ 2000) (h : Wa.In X n) : Right n X := ⟨hn, hl, fun _ he => h.ed he⟩
def lenOf : Value → Nat
  | .slice _ n _ => n
  | _ => 0

set_option maxHeartbeats 4000000 in
theorem rvictims_any (w : World) (n : Nat) (a : Option Addr) (c : Nat) (X : List Gr.Ed) (h : PgAt w a X) (hR : Right n X) :
    Calls Tryd.prog 10 #[.int .i64 (n : Int), .slice a X.length c] w fun e w' => ∃ v, e = .returned v ∧ OwnNats w' w.heap.size v (Wa.rise (Wa.vic n X.length X [])) ∧ Below w.heap.size w w' := by
  have hn := hR.1
  have hX2 := hR.2.1
  have HIn := hid (right_in hR)
  have KC := hid (clone_any w a c X h (by omega))
  obtain ⟨Y, hY⟩ : ∃ Y, Y = Wa.vic n X.length X [] := ⟨_, rfl⟩
  rw [← hY]
  have HY := hid hY
  obtain ⟨i0, hi, hz0, hz1, hz2⟩ := info_parts int_info3
  obtain ⟨N, hN⟩ : ∃ N, N = w.heap.size := ⟨_, rfl⟩
  rw [← hN] at KC ⊢
  have HN := hid hN
  clear h hR hY hN
  go_enter Tryd.func10, Tryd.ntmps10
  go_wp2_with fail
  refine (KC.out).mono ?_
  rintro r w1 ⟨v1, rfl, ho1, hb1⟩
  have O1 := hid ho1
  have B1 := hid hb1
  obtain ⟨M, hM⟩ : ∃ M, M = w1.heap.size := ⟨_, rfl⟩
  have HM := hid hM
  have hNM : N ≤ M := by rw [hM]; exact (HN.out ▸ hb1.size)
  have hEM : Hid (∀ b, v1.ownBlock = some b → N ≤ b ∧ b < M) := fun b hb => by rw [hM]; exact ho1.lt b hb
  obtain ⟨a1, c1, rfl, -⟩ := ho1.at_
  obtain ⟨E, hE⟩ : ∃ E, E = (Value.slice a1 X.length c1).ownBlock := ⟨_, rfl⟩
  rw [← hE] at hEM
  have HE := hid hE
  clear KC ho1 hb1 hM hE
  go_wp2_with fail
  go_loopw [5, 6] (fun tv sv wr => ∃ (X' : List Gr.Ed) (l : List Nat) (f : Nat) (a' : Option Addr) (c' : Nat) (T : Value), sv = .slice a' X'.length c' ∧ T = tv ∧ Hid (OwnPg wr N (.slice a' X'.length c') X') ∧ Hid ((Value.slice a' X'.length c').ownBlock = E) ∧ Hid (Wa.In X' n) ∧ X'.length ≤ f ∧ Hid (Wa.vic n f X' l = Y) ∧ l.length + X'.length ≤ 2000 ∧ Hid (OwnNats wr M T l) ∧ M ≤ wr.heap.size ∧ Hid (Below N w wr)) (fun _ sv _ => lenOf sv)
  case atStart => exact ⟨X, [], X.length, a1, c1, _, rfl, rfl, O1, HE.out.symm, HIn, Nat.le_refl _, by show _ = _; rw [HY.out], by simpa using hX2, OwnR.nil _ _, Nat.le_of_eq HM.out, B1⟩
  case round =>
    clear O1 B1 HM HE HY HIn hX2
    obtain ⟨X', l, f, a', c', v, rfl, rfl, hP, hPE, hI, hf, hV, hlen, hO, hMr, hb⟩ := hrel
    obtain ⟨av, cv, rfl, -⟩ := hO.out.at_
    have KL := hid (clo_any wr n a' c' X' (own_pg hP.out) (in_rgt hn (by omega) hI.out))
    have HWN := hid fun h => Wa.vic_end (n := n) (f := f) (X := X') (l := l) h
    have HWS := hid fun h => Wa.worst_some (X := X') (n := n) h
    go_wp2_with fail
    refine (KL.out).mono ?_
    rintro r w4 ⟨rfl, hm4, hb4⟩
    have M4 := hid hm4
    have O4 := hid (hO.out.below hb4)
    have P4 := hid (hP.out.below hb4)
    have s4 : M ≤ w4.heap.size := Nat.le_trans hMr hb4.size
    have B4 : Hid (Below N w w4) := hb.out.trans (hb4.mono (Nat.le_trans hNM hMr))
    obtain ⟨D, hD⟩ : ∃ D, D = wr.heap.size := ⟨_, rfl⟩
    rw [← hD] at M4 ⊢
    clear KL hm4 hb4 hO hP hb hMr hD
    obtain ⟨Q, hQ⟩ : ∃ Q, Q = w4.heap.size := ⟨_, rfl⟩
    have HQ := hid hQ
    go_wp2_with fail
    have X5 := hid (BoxAt.new w4 (-1))
    have B5 : Hid (Below w4.heap.size w4 (w4.alloc (.cells #[.int .i64 (-1)] 3))) := bx _ _
    obtain ⟨w5, hw5⟩ : ∃ w5, w5 = w4.alloc (.cells #[.int .i64 (-1)] 3) := ⟨_, rfl⟩
    rw [← hw5] at X5 B5 ⊢
    rw [← hQ] at X5 ⊢
    clear hw5 hQ
    have WN := hid fun k h => Wa.worstTo_hit (X := X') (n := n) (k := k) h
    have WM := hid fun k h => Wa.worstTo_miss (X := X') (n := n) (k := k) h
    go_loopw [16] (fun i wr => ∃ (k : Nat) (z : Int), k ≤ n ∧ i = .int .i64 (k : Int) ∧ Hid (z = Wa.worstTo X' n k) ∧ Hid (BoxAt wr Q z) ∧ Hid (Below w4.heap.size w4 wr)) (fun i _ => n - (intOf i).toNat)
    case atStart => exact ⟨0, -1, Nat.zero_le _, rfl, by show _ = _; rfl, X5, B5⟩
    case round =>
      clear X5 B5
      obtain ⟨k, z, hk, rfl, hz, hX, hb⟩ := hrel
      by_cases hlk : k < n
      · have k0 : (0 : Int) ≤ (k : Int) := by omega
        have k1 : (k : Int) < (n : Int) := by omega
        have MK := hid (M4.out.below hb.out)
        have m1 := MK.out.head hlk
        have m2 := MK.out.cell hlk hlk
        have x1 := hX.out.cell
        have x2 := hX.out.fz
        cases hw : Gr.W X' n k k with
        | false =>
          rw [hw] at m2
          have HZ : Hid (z = Wa.worstTo X' n (k + 1)) := hz.out.trans (WM.out k hw).symm
          clear hw hz x1 x2
          go_wp2_with fail
          go_roundw
          case rel => exact ⟨k + 1, z, by omega, by go_num, HZ, hX, hb⟩
          case measure => simp [intOf]; omega
        | true =>
          rw [hw] at m2
          have HZ : Hid ((k : Int) = Wa.worstTo X' n (k + 1)) := (WN.out k hw).symm
          have X6 := hid (hX.out.set (k : Int))
          have B6 : Hid (Below w4.heap.size w4 (wr.setCell ⟨Q, 0, none⟩ (.int .i64 (k : Int)))) := hb.out.setCell (p := ⟨Q, 0, none⟩) (by show _ ≤ Q; rw [HQ.out]; exact Nat.le_refl _) _
          clear hw hz hX hb MK
          go_wp2_with fail
          go_roundw
          case rel => exact ⟨k + 1, (k : Int), by omega, by go_num, HZ, X6, B6⟩
          case measure => simp [intOf]; omega
      · obtain rfl : k = n := by omega
        have j4 : decide ((k : Int) < (k : Int)) = false := by simp
        have x1 := hX.out.cell
        have eZ : z = Wa.worst X' k := hz.out
        subst eZ
        have O5 := hid (O4.out.below hb.out)
        have P5 := hid (P4.out.below hb.out)
        have s5 : M ≤ wr.heap.size := Nat.le_trans s4 hb.out.size
        have B5 : Hid (Below N w wr) := B4.out.trans (hb.out.mono (Nat.le_trans hNM s4))
        have hO1 : Hid (∀ b, (Value.slice av l.length cv).ownBlock = some b → b < Q) := fun b e => by rw [HQ.out]; exact (O4.out.lt b e).2
        have hE1 : Hid (E ≠ some Q) := fun e => by have := (hEM.out Q e).2; have := HQ.out; omega
        clear hz WN WM O4 P4 B4 M4 hb s4
        obtain ⟨wk, hwk⟩ : ∃ wk, wk = wr := ⟨_, rfl⟩
        rw [← hwk] at x1 hX O5 P5 s5 B5 ⊢
        clear hwk
        by_cases hz : Wa.worst X' k = -1
        · have HV : Hid (l = Y) := by show _ = _; rw [← hV.out, HWN.out hz]
          rw [hz] at x1
          have j1 : decide ((-1 : Int) < 0) = true := rfl
          have K5 := hid (sort_any wk M _ l O5.out (by omega))
          have HG : Hid (∀ b, (Value.slice av l.length cv).ownBlock = some b → N ≤ b) := fun b e => Nat.le_trans hNM (O5.out.lt b e).1
          clear HWN HWS hz hV hX O5
          go_wp2_with fail
          refine (K5.out).mono ?_
          rintro r w6 ⟨rfl, ho6, hg6⟩
          have O6 : Hid (OwnNats w6 M (.slice av l.length cv) (Wa.rise Y)) := by show OwnNats _ _ _ _; rw [← HV.out]; exact ho6
          have B6 : Hid (Below N w w6) := B5.out.grown hg6 (by omega) HG.out
          clear ho6 hg6 K5 B5
          go_wp2_with fail
          go_ret
          exact ⟨_, rfl, O6.out.lower hNM, B6.out⟩
        · obtain ⟨q, hk, hk1, hk2⟩ := HWS.out hz
          rw [hk] at x1
          rw [hk] at hX
          obtain ⟨f', hf', hV'⟩ := Wa.vic_step (l := l) hk hk2 hf
          have HL := hid (Wa.wo_less hk2)
          have HV2 : Hid (Wa.vic k f' (Wa.wo X' q) (l ++ [q]) = Y) := by show _ = _; rw [← hV', hV.out]
          have HI2 := hid (Wa.wo_in (k := (q : Int)) hI.out)
          have j1 : decide ((q : Int) < 0) = false := by simp
          obtain ⟨D2, hD2⟩ : ∃ D2, D2 = l ++ [q] := ⟨_, rfl⟩
          rw [← hD2] at HV2
          have HD2 := hid hD2
          have hl2 : D2.length = l.length + 1 := by rw [hD2]; simp
          have hown1 : wk.ownsRow M 3 1 (.slice av l.length cv) l.length (l.map nc) := O5.out
          have KD := hid fun W h hq => delete_any W N (.slice a' X'.length c') X' ⟨Q, 0, none⟩ (q : Int) h hq (by rw [hPE.out]; exact hE1.out) (by omega)
          clear HWN HWS hz hV hk hk2 hV' hI hD2
          go_wp2_with (at_builtin; refine wpList_append_own _ rfl _ _ 25 rfl M 3 i0 (.int .i64 0) 1 8 Tryd.underlying25 hi hz0 hz1 hz2 rfl (by decide) _ _ _ rfl (hown1.alloc _) ⟨wk.heap.size, 0, none⟩ 1 1 [nc q] rfl rfl ?c1 ?c2 ?c3 ?c4 ?c5 ?_)
          case c1 => exact cell_one_new _ _ _
          case c2 => exact nats_one [q]
          case c3 => unfold maxLen; omega
          case c4 => omega
          case c5 => simp; omega
          intro v' w6 hown' hgrow hnil
          have O6 : Hid (OwnNats w6 M v' D2) := by show OwnNats _ _ _ _; rw [HD2.out]; exact OwnR.grows hown'
          have hQl : Q < wk.heap.size := hX.out.lt
          have E6 : ∀ g, g < wk.heap.size → (Value.slice av l.length cv).ownBlock ≠ some g → w6.heap[g]? = wk.heap[g]? := fun g hg hne => (hgrow.block g (by rw [World.size_alloc]; omega) (fun e => hne e.symm)).trans (Below.heap_alloc wk _ _ hg)
          have X6 : Hid (BoxAt w6 Q (q : Int)) := hX.out.keep (E6 Q hQl (fun e => by have := hO1.out Q e; omega))
          have P6 : Hid (OwnPg w6 N (.slice a' X'.length c') X') := P5.out.keep fun g hg => E6 g (P5.out.lt g hg).2 (fun e => by
            rw [hPE.out] at hg
            have h1 := (hEM.out g hg).2
            have h2 := (hown1.lt g e).1
            omega)
          have B6 : Hid (Below N w w6) := (B5.out.alloc (by omega) _).grown hgrow (by rw [World.size_alloc]; omega) (fun b hb => Nat.le_trans hNM (hown1.lt b hb).1)
          have s6 : wk.heap.size ≤ w6.heap.size := by have := hgrow.size; rw [World.size_alloc] at this; omega
          have K6 := hid (KD.out w6 P6.out X6.out.cell)
          clear hown' hgrow hnil hown1 KD E6 O5 P5 B5 hX X6 x1
          go_wp2_with fail
          refine (K6.out).mono ?_
          rintro r w7 ⟨v7, rfl, ho7, hb7, hg7⟩
          obtain ⟨a7, c7, rfl, -⟩ := ho7.at_
          have P7 := hid ho7
          have E7 : Hid ((Value.slice a7 (Wa.wo X' q).length c7).ownBlock = E) := hb7.trans hPE.out
          have O7 : Hid (OwnNats w7 M v' D2) := O6.out.keep fun g hg => hg7.block g (O6.out.lt g hg).2 (fun e => by
            have e2 : (Value.slice a' X'.length c').ownBlock = some g := e
            rw [hPE.out] at e2
            have h1 := (hEM.out g e2).2
            have h2 := (O6.out.lt g hg).1
            omega)
          have B7 : Hid (Below N w w7) := B6.out.trans (hg7.below (by omega) (fun g e => by
            have e2 : (Value.slice a' X'.length c').ownBlock = some g := e
            rw [hPE.out] at e2
            exact (hEM.out g e2).1))
          have s7 : M ≤ w7.heap.size := by have := hg7.size; omega
          clear ho7 hb7 hg7 K6 O6 P6 B6 hPE
          go_wp2_with fail
          go_roundw
          case rel => exact ⟨Wa.wo X' q, D2, f', a7, c7, v', rfl, rfl, P7, E7, HI2, hf', HV2, by have := HL.out; omega, O7, s7, B7⟩
          case measure => simp only [lenOf]; exact HL.out
end Go.Proofs.YtbgcldckgiiedacDoor.PWait
