/- buddy.Drop, walked: it answers what the plain function says; what is taken then lies in a row of its own; nothing else that was there has turned. Conditions: how many blocks there are. -/
import Derived.Test.YtodimkkgmidgcabBuddyIdx
namespace Go.Proofs.Ytodimkkgmidgcab.PBuddy
open Go Go.RowKit PPool
set_option maxRecDepth 100000

/-- Three boxes ahead of all that a call does. -/
structure Bx3 (w w0 : World) (x0 x1 z y0 y1 : Value) : Prop where
  size : w0.heap.size = w.heap.size + 3
  below : Below w.heap.size w w0
  b0 : ∃ T, w0.heap[w.heap.size]? = some (.cells #[x0, x1] T (0, 0))
  b1 : ∃ T, w0.heap[w.heap.size + 1]? = some (.cells #[z] T (0, 0))
  b2 : ∃ T, w0.heap[w.heap.size + 2]? = some (.cells #[y0, y1] T (0, 0))
theorem Bx3.mk' (w : World) (x0 x1 z y0 y1 : Value) (T T' T2 : TypeId) : Bx3 w (((w.alloc (.cells #[x0, x1] T)).alloc (.cells #[z] T')).alloc (.cells #[y0, y1] T2)) x0 x1 z y0 y1 := by
  refine ⟨by simp, below_tr (below_tr (bx _ _) (bx _ _)) (bx _ _), ⟨T, ?_⟩, ⟨T', ?_⟩, ⟨T2, ?_⟩⟩
  · exact (Below.heap_alloc ((w.alloc (.cells #[x0, x1] T)).alloc (.cells #[z] T')) _ _ (by simp; omega)).trans ((Below.heap_alloc (w.alloc (.cells #[x0, x1] T)) _ _ (by simp)).trans (heap_alloc_new w _))
  · have := heap_alloc_new (w.alloc (.cells #[x0, x1] T)) (.cells #[z] T')
    refine (Below.heap_alloc ((w.alloc (.cells #[x0, x1] T)).alloc (.cells #[z] T')) _ _ (by simp)).trans ?_
    simpa using this
  · have := heap_alloc_new ((w.alloc (.cells #[x0, x1] T)).alloc (.cells #[z] T')) (.cells #[y0, y1] T2)
    simpa using this
theorem Bx3.c0 {w w0 w1 : World} {x0 x1 z y0 y1 : Value} (h : Bx3 w w0 x0 x1 z y0 y1) (hb : Below w0.heap.size w0 w1) : w1.cell? ⟨w.heap.size, 0, none⟩ = some x0 ∧ w1.cell? ⟨w.heap.size, 1, none⟩ = some x1 ∧ w1.cell? ⟨w.heap.size + 1, 0, none⟩ = some z := by
  obtain ⟨T, h0⟩ := h.b0
  obtain ⟨T', h1⟩ := h.b1
  have hg := (hb.block _ (by have := h.size; omega)).trans h0
  have hg' := (hb.block _ (by have := h.size; omega)).trans h1
  exact ⟨by rw [cell_of_row w1 _ _ _ _ _ hg]; rfl, by rw [cell_of_row w1 _ _ _ _ _ hg]; rfl, by rw [cell_of_row w1 _ _ _ _ _ hg']; rfl⟩
theorem Bx3.blk {w w0 w1 : World} {x0 x1 z y0 y1 : Value} (h : Bx3 w w0 x0 x1 z y0 y1) (hb : Below w0.heap.size w0 w1) : ∃ T, w1.heap[w.heap.size + 2]? = some (.cells #[y0, y1] T (0, 0)) := by
  obtain ⟨T, h0⟩ := h.b2
  exact ⟨T, (hb.block _ (by have := h.size; omega)).trans h0⟩
theorem Bx3.c1 {w w0 w1 : World} {x0 x1 z y0 y1 : Value} (h : Bx3 w w0 x0 x1 z y0 y1) (hb : Below w0.heap.size w0 w1) : w1.cell? ⟨w.heap.size + 2, 0, none⟩ = some y0 ∧ w1.cell? ⟨w.heap.size + 2, 1, none⟩ = some y1 ∧ w1.frozen? ⟨w.heap.size + 2, 0, none⟩ = false ∧ w1.frozen? ⟨w.heap.size + 2, 1, none⟩ = false := by
  obtain ⟨T, hg⟩ := h.blk hb
  exact ⟨by rw [cell_of_row w1 _ _ _ _ _ hg]; rfl, by rw [cell_of_row w1 _ _ _ _ _ hg]; rfl, fz_of hg 0, fz_of hg 1⟩
theorem Bx3.out {w w0 w1 : World} {x0 x1 z y0 y1 : Value} (h : Bx3 w w0 x0 x1 z y0 y1) (hb : Below w0.heap.size w0 w1) (u v : Value) :
    ((w1.setCell ⟨w.heap.size + 2, 0, none⟩ u).setCell ⟨w.heap.size + 2, 1, none⟩ v).cell? ⟨w.heap.size + 2, 0, none⟩ = some u ∧ ((w1.setCell ⟨w.heap.size + 2, 0, none⟩ u).setCell ⟨w.heap.size + 2, 1, none⟩ v).cell? ⟨w.heap.size + 2, 1, none⟩ = some v := by
  obtain ⟨T, hg⟩ := h.blk hb
  exact res2 hg u v
theorem Bx3.end_ {w w0 w1 : World} {x0 x1 z y0 y1 : Value} (h : Bx3 w w0 x0 x1 z y0 y1) (hb : Below w0.heap.size w0 w1) (u v : Value) : Below w.heap.size w ((w1.setCell ⟨w.heap.size + 2, 0, none⟩ u).setCell ⟨w.heap.size + 2, 1, none⟩ v) :=
  Below.two (h.below.trans (hb.mono (by have := h.size; omega))) (by omega) _ _ _ _
theorem Bx3.own {w w0 w1 : World} {x0 x1 z y0 y1 v s t : Value} {X : List Bd.Bk} (h : Bx3 w w0 x0 x1 z y0 y1) (ho : OwnPg w1 w0.heap.size v X) : OwnPg ((w1.setCell ⟨w.heap.size + 2, 0, none⟩ s).setCell ⟨w.heap.size + 2, 1, none⟩ t) w.heap.size v X := by
  have h1 := ho.lower (base' := w.heap.size) (by have := h.size; omega)
  refine h1.keep fun g hg => ?_
  have hne : g ≠ w.heap.size + 2 := by
    have := (ho.lt g hg).1
    have := h.size
    omega
  rw [Below.heap_setCell _ _ _ _ hne, Below.heap_setCell _ _ _ _ hne]

theorem drop_result {W : World} {b : Nat} {u v : Value} (h : W.cell? ⟨b, 0, none⟩ = some u ∧ W.cell? ⟨b, 1, none⟩ = some v) (tmps : Array Value) (h4 : tmps.getD 4 undef = .pointer (some ⟨b, 0, none⟩)) :
    (results Try.f7 tmps).run Try.prog W = .ok (.tuple #[.agg #[u, v], tmps.getD 5 undef]) W := by
  have h5 : tmps[4]?.getD undef = .pointer (some ⟨b, 0, none⟩) := by simpa using h4
  simp [results, Try.results7, go_sem, h5, h.1, h.2]

/-- Drop's answer as a value. -/
def dropV (R : Int × List Bd.Bk × Nat) (v : Value) : Value := .tuple #[.agg #[.int .i64 R.1, v], .int .i64 (R.2.2 : Int)]
theorem ix_spot (X : List Bd.Bk) (z : Int) : ixF (fun x => decide (x.a = z)) X = if Bd.spot X z = X.length then -1 else (Bd.spot X z : Int) := rfl

set_option maxHeartbeats 2000000 in
theorem drop_any (w : World) (N : Int) (a : Option Addr) (c : Nat) (X : List Bd.Bk) (z : Int) (h : PgAt w a X) (hl : X.length ≤ 9223372036854775807) :
    Calls Try.prog 7 #[bud N a X.length c, .int .i64 z] w fun e w' => ∃ v, e = .returned (dropV (Bd.dropA N X z) v) ∧ OwnPg w' w.heap.size v (Bd.dropA N X z).2.1 ∧ Below w.heap.size w w' := by
  have KK := hid fun W (hW : PgAt W a X) => check_any W N a c X hW hl
  have H := hid h
  unfold bud at KK ⊢
  obtain ⟨R, hR⟩ : ∃ R, R = Bd.dropA N X z := ⟨_, rfl⟩
  rw [← hR]
  have HR := hid hR
  clear h hR
  by_cases hc : Bd.check N X = 0
  · obtain ⟨n, hNn, hn, hk⟩ := Bd.check_ok hc
    have hXl : X.length ≤ 1024 := by
      have h1 := Bd.chk_len hk
      have h2 := Bd.pow_le hn
      omega
    have HE0 : R = if Bd.spot X z = X.length then (0, [], 6) else (N, X.eraseIdx (Bd.spot X z), 0) := by rw [HR.out]; unfold Bd.dropA; rw [if_neg (by omega)]
    have KI := hid fun W q (hW : PgAt W a X) (hq : W.cell? q = some (.int .i64 z)) => index_any W a c X 21 #[.pointer (some q)] (fun x => decide (x.a = z)) (fun _ _ => rfl) (fun W' x _ hb => drop1_any W' x q z (keep1 hb hq)) hW hl
    rw [ix_spot] at KI
    rw [hc] at KK
    have hsl := Bd.spot_le X z
    by_cases hs : Bd.spot X z = X.length
    · rw [if_pos hs] at HE0 KI
      have HE := hid HE0
      clear HE0 hs hc hNn hk hsl
      go_enter Try.func7, Try.ntmps7
      go_wp2_with fail
      have BX := hid (Bx3.mk' w (.int .i64 N) (.slice a X.length c) (.int .i64 z) (.int .i64 0) (.slice none 0 0) 24 3 24)
      generalize ((w.alloc (.cells #[.int .i64 N, .slice a X.length c] 24)).alloc (.cells #[.int .i64 z] 3)).alloc (.cells #[.int .i64 0, .slice none 0 0] 24) = w0 at *
      refine (KK.out _ (H.out.below BX.out.below)).mono ?_
      rintro r w1 ⟨rfl, hb⟩
      have B1 := hid hb
      obtain ⟨c0, c1, c2⟩ := BX.out.c0 hb
      clear hb KK
      go_wp2_with fail
      refine (KI.out _ _ (H.out.below (below_tr BX.out.below B1.out)) c2).mono ?_
      rintro r w2 ⟨rfl, hb⟩
      have B2 := hid (below_tr B1.out hb)
      obtain ⟨e0, e1, f0, f1⟩ := BX.out.c1 B2.out
      clear hb KI c0 c1 c2
      go_wp2_with fail
      refine bodyPost_ret (drop_result (BX.out.out B2.out _ _) _ rfl) rfl ?_
      exact ⟨_, by rw [HE.out]; rfl, by rw [HE.out]; exact OwnPg.nil _ _, BX.out.end_ B2.out _ _⟩
    · rw [if_neg hs] at HE0 KI
      have HE := hid HE0
      obtain ⟨m, hm⟩ : ∃ m, X.length = m + 1 := ⟨X.length - 1, by omega⟩
      have hk' : Bd.spot X z ≤ m := by omega
      clear HE0 hs hc hNn hk hsl
      generalize Bd.spot X z = k at *
      have KC := hid fun W (hW : PgAt W a X) => clone_any W a c X hW (by omega)
      have KD := hid fun W base g c' (hO : OwnPg W base (.slice (some ⟨g, 0, none⟩) (m + 1) c') X) => delete_any W base g c' k m X hm hO hk' (by omega)
      have i0 : (0 : Int) ≤ (k : Int) := by omega
      have i1 : ¬ (k : Int) < 0 := by omega
      have i2 : (k : Int) ≤ 1024 := by omega
      have i3 : IntKind.i64.wrap ((k : Int) + 1) = (k : Int) + 1 := IntWalk.i64_in _ ⟨by omega, by omega⟩
      have HM := hid hm
      clear hm
      go_enter Try.func7, Try.ntmps7
      go_wp2_with fail
      have BX := hid (Bx3.mk' w (.int .i64 N) (.slice a X.length c) (.int .i64 z) (.int .i64 0) (.slice none 0 0) 24 3 24)
      generalize ((w.alloc (.cells #[.int .i64 N, .slice a X.length c] 24)).alloc (.cells #[.int .i64 z] 3)).alloc (.cells #[.int .i64 0, .slice none 0 0] 24) = w0 at *
      refine (KK.out _ (H.out.below BX.out.below)).mono ?_
      rintro r w1 ⟨rfl, hb⟩
      have B1 := hid hb
      obtain ⟨c0, c1, c2⟩ := BX.out.c0 hb
      clear hb KK
      go_wp2_with fail
      refine (KI.out _ _ (H.out.below (below_tr BX.out.below B1.out)) c2).mono ?_
      rintro r w2 ⟨rfl, hb⟩
      have B2 := hid (below_tr B1.out hb)
      obtain ⟨d0, d1, d2⟩ := BX.out.c0 B2.out
      have HX2 := hid (H.out.below (below_tr BX.out.below B2.out))
      have hs2 := BX.out.size
      have hs3 := B2.out.size
      clear hb KI c0 c1 c2
      go_wp2_with fail
      go_region_held3 (fun W => W.cell? ⟨w.heap.size, 0, none⟩ = some (.int .i64 N) ∧ W.cell? ⟨w.heap.size, 1, none⟩ = some (.slice a X.length c))
        (first | exact ⟨d0, d1⟩ | (go_split_ands; exact ⟨by assumption, by assumption⟩) | exact spot_set (by omega) (by assumption) (by assumption))
        ((first | (go_at_call 16; refine (KC.out _ HX2.out.drew).mono ?_; rintro r w3 ⟨v3, rfl, ho3, hb3⟩; have B3 := hid (below_tr B2.out (drew_below hb3)); obtain ⟨x0, x1, _⟩ := BX.out.c0 B3.out; have O3 := hid (ho3.lower (base' := w0.heap.size) hs3); obtain ⟨g3, k3, rfl, _⟩ := ho3.some (by have := HM.out; omega); clear hb3 ho3; rw [HM.out] at O3 ⊢) | (go_at_call 22; refine (KD.out _ w0.heap.size g3 k3 O3.out).mono ?_; rintro r w4 ⟨rfl, ho4, hg4⟩; have B4 := hid (B3.out.trans (hg4.below B3.out.size (fun q hq => by have := (O3.out.lt g3 rfl).1; omega))); obtain ⟨u0, u1, _⟩ := BX.out.c0 B4.out; obtain ⟨y0, y1, g0, g1⟩ := BX.out.c1 B4.out; have O4 := hid ho4; clear hg4 ho4)))
      go_wp2_with fail
      refine bodyPost_ret (drop_result (BX.out.out B4.out _ _) _ rfl) rfl ?_
      exact ⟨_, by rw [HE.out]; rfl, by rw [HE.out]; exact BX.out.own O4.out, BX.out.end_ B4.out _ _⟩
  · have HE : Hid (R = (0, [], Bd.check N X)) := by show _ = _; rw [HR.out]; unfold Bd.dropA; rw [if_pos hc]
    generalize Bd.check N X = C at *
    have hne : ((C : Int) != 0) = true := by simp; omega
    go_enter Try.func7, Try.ntmps7
    go_wp2_with fail
    have BX := hid (Bx3.mk' w (.int .i64 N) (.slice a X.length c) (.int .i64 z) (.int .i64 0) (.slice none 0 0) 24 3 24)
    generalize ((w.alloc (.cells #[.int .i64 N, .slice a X.length c] 24)).alloc (.cells #[.int .i64 z] 3)).alloc (.cells #[.int .i64 0, .slice none 0 0] 24) = w0 at *
    refine (KK.out _ (H.out.below BX.out.below)).mono ?_
    rintro r w1 ⟨rfl, hb⟩
    have B1 := hid hb
    obtain ⟨e0, e1, f0, f1⟩ := BX.out.c1 hb
    clear hb KK
    go_wp2_with fail
    refine bodyPost_ret (drop_result (BX.out.out B1.out _ _) _ rfl) rfl ?_
    exact ⟨_, by rw [HE.out]; rfl, by rw [HE.out]; exact OwnPg.nil _ _, BX.out.end_ B1.out _ _⟩

end Go.Proofs.Ytodimkkgmidgcab.PBuddy
