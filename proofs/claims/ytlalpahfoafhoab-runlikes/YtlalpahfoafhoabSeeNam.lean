/- see.namesOf, see.nameAt, walked: they answer the names that the plain words tell, and nothing that was there has turned. Conditions: the operations lie where their slice says; the run is right. -/
import Derived.Test.YtlalpahfoafhoabSeeMem
import Derived.Test.YtlalpahfoafhoabGraphZero
import Derived.Deep.CutRange
namespace Go.Proofs.Ytlalpahfoafhoab.PSee
open Go Go.RowKit PPool PGraph PRun
set_option maxRecDepth 100000

def nms (X : List Rn.Op) : List Gr.Ed := (List.range X.length).map (Se.nm X)
theorem nms_len (X : List Rn.Op) : (nms X).length = X.length := by simp [nms]
theorem nms_at {X : List Rn.Op} {k : Nat} (h : k < X.length) : (nms X)[k]? = some (Se.nm X k) := by simp [nms, h]
theorem many_info : (Try.prog.info? 134).map (fun i => (i.zero, i.size)) = some (some (.agg (eA fun _ => 0)), 12) := by kernel_rfl
def rk (X : List Rn.Op) (k : Nat) (t : Nat) : Int := (Rn.rank X k t : Nat)
theorem rk_start (X : List Rn.Op) : rk X 0 = fun _ => 0 := by funext t; simp [rk, Rn.rank, Rn.own]
theorem rk_next {X : List Rn.Op} {k t : Nat} {o : Rn.Op} (ho : X[k]? = some o) (hx : o.x = t) : rk X (k + 1) = fun s => if s = t then rk X k t + 1 else rk X k s := by
  funext s
  unfold rk
  rw [Rn.rank_next ho]
  by_cases e : s = t
  · subst e; rw [if_pos rfl, if_pos hx]; omega
  · rw [if_neg e, if_neg (by omega)]; omega
theorem nm_rk {X : List Rn.Op} {k t : Nat} {o : Rn.Op} (ho : X[k]? = some o) (hx : o.x = t) : Se.nm X k = ⟨(t : Int), rk X k t⟩ := by
  rw [Se.nm_some ho, hx]; rfl
theorem run_make_names (n : Nat) (hn : n ≤ 4096) (W : World) : (Instr.makeSlice 184 (.int .i64 (n : Int)) (.int .i64 (n : Int))).run Try.prog W = .ok (.slice (some ⟨W.heap.size, 0, none⟩) n n) (W.alloc (.cells (madeCells z2 (n * 2)) 151)) := by
  obtain ⟨i0, hi, hz0, hz1, hz2⟩ := info_parts name_info
  have := run_make (P := Try.prog) W 184 151 i0 (.agg #[.int .i64 0, .int .i64 0]) Try.underlying184 hi hz0 .i64 .i64 n n (by omega) (by omega) (by rw [hz2]; omega) (by omega)
  rw [hz1] at this
  exact this

/-- How all stands while the names are given. -/
structure NmAt (w W : World) (X : List Rn.Op) (k : Nat) : Prop where
  many : ArrAt W w.heap.size (eA (rk X k))
  out : OwnPr 151 W w.heap.size (.slice (some ⟨w.heap.size + 1, 0, none⟩) X.length X.length) (half (nms X) k)
  bel : Below w.heap.size w W
theorem NmAt.below {w W W' : World} {X : List Rn.Op} {k : Nat} (h : NmAt w W X k) (hb : Below W.heap.size W W') : NmAt w W' X k := ⟨h.many.below hb, h.out.below hb, below_tr h.bel hb⟩
theorem NmAt.next {w W : World} {X : List Rn.Op} {k t : Nat} {o : Rn.Op} (h : NmAt w W X k) (ho : X[k]? = some o) (hx : o.x = t) :
    NmAt w (((W.setCell ⟨w.heap.size + 1, k * 2, none⟩ (.int .i64 (t : Int))).setCell ⟨w.heap.size + 1, k * 2 + 1, none⟩ (.int .i64 (rk X k t))).setCell ⟨w.heap.size, t, none⟩ (.int .i64 (rk X k t + 1))) X (k + 1) := by
  have hk := (List.getElem?_eq_some_iff.1 ho).1
  have o1 := h.out.put k (by rw [half_len (by rw [nms_len]; omega), nms_len]; exact hk) (t : Int) (rk X k t)
  rw [← nm_rk ho hx, half_set (nms_at hk)] at o1
  refine ⟨?_, ?_, ?_⟩
  · rw [rk_next ho hx, ← eA_set]
    exact ((h.many.apart (by omega) _ _).apart (by omega) _ _).put _ _
  · refine o1.keep fun g hg => Below.heap_setCell _ _ _ _ ?_
    have : g = w.heap.size + 1 := by simpa [Value.ownBlock] using hg.symm
    show g ≠ w.heap.size
    omega
  · exact (Below.two h.bel (by omega) _ _ _ _).setCell (p := ⟨w.heap.size, t, none⟩) (Nat.le_refl _) _
/-- The same where a box lies above. -/
theorem NmAt.spots {w W : World} {X : List Rn.Op} {k t : Nat} (h : NmAt w W X k) (hk : k < X.length) (ht : t < 12) :
    W.cell? ⟨w.heap.size, t, none⟩ = some (.int .i64 (rk X k t)) ∧ W.frozen? ⟨w.heap.size, t, none⟩ = false ∧ (∃ v, W.cell? ⟨w.heap.size + 1, k * 2, none⟩ = some v) ∧ (∃ v, W.cell? ⟨w.heap.size + 1, k * 2 + 1, none⟩ = some v) ∧ ∀ i, W.frozen? ⟨w.heap.size + 1, i, none⟩ = false := by
  obtain ⟨c1, c2⟩ := h.out.cells (half_at (X := nms X) (by rw [nms_len]; exact hk))
  exact ⟨h.many.cell (eA_at _ ht), h.many.fz _, ⟨_, c1⟩, ⟨_, c2⟩, h.out.fz⟩

set_option maxHeartbeats 4000000 in
theorem names_any (w : World) (a : Option Addr) (c : Nat) (X : List Rn.Op) (h : OpAt w a X) (hv : Rn.check X = 0) :
    Calls Try.prog 123 #[.slice a X.length c] w fun e w' => ∃ v, e = .returned v ∧ OwnPr 151 w' w.heap.size v (nms X) ∧ Below w.heap.size w w' := by
  have H := hid h
  have HV := hid hv
  have l200 := (Rn.check_zero hv).1
  have hz := (zero_of_info many_info).1
  have hm := run_make_names X.length (by omega)
  clear h hv
  have A0 : ∀ T, Hid (NmAt w ((w.alloc (.cells (eA fun _ => 0) T)).alloc (.cells (madeCells z2 (X.length * 2)) 151)) X 0) := fun T => by
    refine ⟨?_, ?_, bx2 _ _ _⟩
    · rw [rk_start]; exact (ArrAt.new w _ _).below (bx _ _)
    · have := OwnPr.made (T := 151) (w.alloc (.cells (eA fun _ => 0) T)) (nms X) (by rw [nms_len]; unfold maxLen; omega)
      rw [nms_len, show (w.alloc (.cells (eA fun _ => 0) T)).heap.size = w.heap.size + 1 by simp] at this
      exact this.lower (Nat.le_succ _)
  go_enter Try.func123, Try.ntmps123
  go_wp2_with fail
  go_loopw [5, 6, 12] (fun _ _ i wr => ∃ k : Nat, k ≤ X.length ∧ i = .int .i64 (k : Int) ∧ Hid (NmAt w wr X k)) (fun _ _ i _ => X.length - (intOf i).toNat)
  case atStart => exact ⟨0, Nat.zero_le _, rfl, A0 _⟩
  case round =>
    clear A0 hm
    obtain ⟨k, hk, rfl, hA⟩ := hrel
    by_cases hlt : k < X.length
    · obtain ⟨x, hx⟩ : ∃ x, X[k]? = some x := ⟨_, List.getElem?_eq_getElem hlt⟩
      obtain ⟨b, o, rfl, d1, d2, d3⟩ := (H.out.below hA.out.bel) k x hx
      have k0 : (0 : Int) ≤ (k : Int) := by omega
      have k1 : (k : Int) < (X.length : Int) := by omega
      have g := Rn.good_at HV.out hx
      have g0 := g.x0
      have g1 := g.x1
      have HX := hid hx
      clear hx g
      obtain ⟨ox, ok, oi⟩ := x
      simp only at d1 d2 d3 g0 g1
      obtain ⟨t, rfl⟩ : ∃ t : Nat, ox = (t : Int) := ⟨ox.toNat, by omega⟩
      have t12 : t < 12 := by omega
      have t0 : (0 : Int) ≤ (t : Int) := by omega
      have t1 : (t : Int) < 12 := by omega
      obtain ⟨W0, hW0⟩ : ∃ W0, W0 = wr.alloc (.cells #[.int .i64 (t : Int), .int .i64 ok, .int .i64 oi] 129) := ⟨_, rfl⟩
      obtain ⟨M, hM⟩ : ∃ M, M = wr.heap.size := ⟨_, rfl⟩
      have hMw : w.heap.size + 1 < M := by rw [hM]; exact (hA.out.out.ge).2
      have A1 : Hid (ArrAt W0 M #[.int .i64 (t : Int), .int .i64 ok, .int .i64 oi] ∧ NmAt w W0 X k) := by rw [hW0, hM]; exact ⟨ArrAt.new wr _ _, hA.out.below (bx _ _)⟩
      have A2 : Hid (NmAt w _ X (k + 1)) := hid ((A1.out.2.below (Below.refl _ _).drew).next HX.out rfl)
      obtain ⟨p1, p2, ⟨v1, p3⟩, ⟨v2, p4⟩, p5⟩ := A1.out.2.spots hlt t12
      have f0 := A1.out.1.cell (j := 0) (v := .int .i64 (t : Int)) rfl
      have hrk : 0 ≤ rk X k t ∧ rk X k t ≤ 200 := by
        have : Rn.rank X k t ≤ k := by unfold Rn.rank Rn.own; exact Nat.le_trans (List.length_filter_le _ _) (by rw [List.length_take]; omega)
        unfold rk; omega
      obtain ⟨z, hz'⟩ : ∃ z, z = rk X k t := ⟨_, rfl⟩
      rw [← hz'] at A2 p1 hrk
      clear hz' hA
      have z0 := hrk.1
      have z1 := hrk.2
      clear hrk
      go_upto_region 6 with fail
      rw [← hW0, ← hM]
      clear hW0 hM d1 d2 d3
      go_region
      all_goals
        go_wp2_with fail
        go_roundw
        case rel => exact ⟨k + 1, by omega, by go_num, A2⟩
        case measure => simp [intOf]; omega
    · obtain rfl : k = X.length := by omega
      have hO : Hid (OwnPr 151 wr w.heap.size (.slice (some ⟨w.heap.size + 1, 0, none⟩) X.length X.length) (nms X)) := by
        have := hA.out.out
        rw [show half (nms X) X.length = nms X by rw [← nms_len X]; exact half_all _] at this
        exact this
      have hB := hid hA.out.bel
      clear hA
      go_wp2_with fail
      go_ret
      exact ⟨_, rfl, hO.out, hB.out⟩

set_option maxHeartbeats 1000000 in
theorem nameAt_any (w : World) (a : Option Addr) (c : Nat) (Z : List Gr.Ed) (v : Option Nat) (e : Gr.Ed) (h : PgAt w a Z) (he : (v = none ∧ e = ⟨-1, 0⟩) ∨ ∃ q, v = some q ∧ Z[q]? = some e) :
    Calls Try.prog 124 #[.slice a Z.length c, .int .i64 (wrN v)] w fun x w' => x = .returned (.agg #[.int .i64 e.f, .int .i64 e.t]) ∧ Below w.heap.size w w' := by
  have hb := fun T => hid (bx w (.cells #[.int .i64 e.f, .int .i64 e.t] T))
  rcases he with ⟨rfl, rfl⟩ | ⟨q, rfl, hq⟩
  · show Calls _ _ #[_, .int .i64 (-1)] _ _
    clear h
    go_enter Try.func124, Try.ntmps124
    go_wp2_with fail
    exact bodyPost_ret (results_cell_row rfl _ _ w.heap.size 151 _ (0, 0) _ rfl (heap_alloc_new w _) Try.underlying151 rfl (zero_of_info (v := .agg #[.int .i64 0, .int .i64 0]) (n := 2) (by kernel_rfl)).2) rfl ⟨rfl, (hb _).out⟩
  · show Calls _ _ #[_, .int .i64 (q : Int)] _ _
    obtain ⟨b, o, rfl, d1, d2⟩ := h q e hq
    have hql := (List.getElem?_eq_some_iff.1 hq).1
    have q0 : (0 : Int) ≤ (q : Int) := by omega
    have q1 : (q : Int) < (Z.length : Int) := by omega
    have qn : ((q : Int) == -1) = false := by first | (simp; done) | (simp; omega)
    have e1 : ∀ o1 : Obj, (w.alloc o1).cell? ⟨b, o + q * 2, none⟩ = some (.int .i64 e.f) := fun o1 => keep1 (bx w o1) d1
    have e2 : ∀ o1 : Obj, (w.alloc o1).cell? ⟨b, o + q * 2 + 1, none⟩ = some (.int .i64 e.t) := fun o1 => keep1 (bx w o1) d2
    clear h hq d1 d2
    obtain ⟨ef, et⟩ := e
    simp only at e1 e2 hb ⊢
    go_enter Try.func124, Try.ntmps124
    go_wp2_with fail
    exact bodyPost_ret (results_cell_row rfl _ _ w.heap.size 151 _ (0, 0) _ rfl (heap_alloc_new w _) Try.underlying151 rfl (zero_of_info (v := .agg #[.int .i64 0, .int .i64 0]) (n := 2) (by kernel_rfl)).2) rfl ⟨rfl, (hb _).out⟩
end Go.Proofs.Ytlalpahfoafhoab.PSee
