/- buddy.Take, walked: it answers what the plain function says; what is taken then lies in a row of its own; nothing else that was there has turned. Conditions: how many blocks there are. -/
import Derived.Test.YtodimkkgmidgcabBuddyTake
namespace Go.Proofs.Ytodimkkgmidgcab.PBuddy
open Go Go.RowKit PPool
set_option maxRecDepth 100000

/-- Two boxes of two cells ahead of all that a call does. -/
structure Bx2 (w w0 : World) (x0 x1 y0 y1 : Value) : Prop where
  size : w0.heap.size = w.heap.size + 2
  below : Below w.heap.size w w0
  b0 : ∃ T, w0.heap[w.heap.size]? = some (.cells #[x0, x1] T (0, 0))
  b1 : ∃ T, w0.heap[w.heap.size + 1]? = some (.cells #[y0, y1] T (0, 0))
theorem Bx2.mk' (w : World) (x0 x1 y0 y1 : Value) (T T' : TypeId) : Bx2 w ((w.alloc (.cells #[x0, x1] T)).alloc (.cells #[y0, y1] T')) x0 x1 y0 y1 := by
  refine ⟨by simp, below_tr (bx _ _) (bx _ _), ⟨T, ?_⟩, ⟨T', ?_⟩⟩
  · exact (Below.heap_alloc (w.alloc (.cells #[x0, x1] T)) _ _ (by simp)).trans (heap_alloc_new w _)
  · have := heap_alloc_new (w.alloc (.cells #[x0, x1] T)) (.cells #[y0, y1] T')
    simpa using this
theorem Bx2.c0 {w w0 w1 : World} {x0 x1 y0 y1 : Value} (h : Bx2 w w0 x0 x1 y0 y1) (hb : Below w0.heap.size w0 w1) : w1.cell? ⟨w.heap.size, 0, none⟩ = some x0 ∧ w1.cell? ⟨w.heap.size, 1, none⟩ = some x1 := by
  obtain ⟨T, h0⟩ := h.b0
  have hg := (hb.block _ (by have := h.size; omega)).trans h0
  exact ⟨by rw [cell_of_row w1 _ _ _ _ _ hg]; rfl, by rw [cell_of_row w1 _ _ _ _ _ hg]; rfl⟩
theorem Bx2.blk {w w0 w1 : World} {x0 x1 y0 y1 : Value} (h : Bx2 w w0 x0 x1 y0 y1) (hb : Below w0.heap.size w0 w1) : ∃ T, w1.heap[w.heap.size + 1]? = some (.cells #[y0, y1] T (0, 0)) := by
  obtain ⟨T, h0⟩ := h.b1
  exact ⟨T, (hb.block _ (by have := h.size; omega)).trans h0⟩
theorem Bx2.c1 {w w0 w1 : World} {x0 x1 y0 y1 : Value} (h : Bx2 w w0 x0 x1 y0 y1) (hb : Below w0.heap.size w0 w1) : w1.cell? ⟨w.heap.size + 1, 0, none⟩ = some y0 ∧ w1.cell? ⟨w.heap.size + 1, 1, none⟩ = some y1 ∧ w1.frozen? ⟨w.heap.size + 1, 0, none⟩ = false ∧ w1.frozen? ⟨w.heap.size + 1, 1, none⟩ = false := by
  obtain ⟨T, hg⟩ := h.blk hb
  exact ⟨by rw [cell_of_row w1 _ _ _ _ _ hg]; rfl, by rw [cell_of_row w1 _ _ _ _ _ hg]; rfl, fz_of hg 0, fz_of hg 1⟩
theorem Bx2.out {w w0 w1 : World} {x0 x1 y0 y1 : Value} (h : Bx2 w w0 x0 x1 y0 y1) (hb : Below w0.heap.size w0 w1) (u v : Value) :
    ((w1.setCell ⟨w.heap.size + 1, 0, none⟩ u).setCell ⟨w.heap.size + 1, 1, none⟩ v).cell? ⟨w.heap.size + 1, 0, none⟩ = some u ∧ ((w1.setCell ⟨w.heap.size + 1, 0, none⟩ u).setCell ⟨w.heap.size + 1, 1, none⟩ v).cell? ⟨w.heap.size + 1, 1, none⟩ = some v := by
  obtain ⟨T, hg⟩ := h.blk hb
  exact res2 hg u v
theorem Bx2.end_ {w w0 w1 : World} {x0 x1 y0 y1 : Value} (h : Bx2 w w0 x0 x1 y0 y1) (hb : Below w0.heap.size w0 w1) (u v : Value) : Below w.heap.size w ((w1.setCell ⟨w.heap.size + 1, 0, none⟩ u).setCell ⟨w.heap.size + 1, 1, none⟩ v) :=
  Below.two (h.below.trans (hb.mono (by have := h.size; omega))) (Nat.le_succ _) _ _ _ _
theorem Bx2.own {w w0 w1 : World} {x0 x1 y0 y1 v s t : Value} {X : List Bd.Bk} (h : Bx2 w w0 x0 x1 y0 y1) (ho : OwnPg w1 w0.heap.size v X) : OwnPg ((w1.setCell ⟨w.heap.size + 1, 0, none⟩ s).setCell ⟨w.heap.size + 1, 1, none⟩ t) w.heap.size v X := by
  have h1 := ho.lower (base' := w.heap.size) (by have := h.size; omega)
  refine h1.keep fun g hg => ?_
  have hne : g ≠ w.heap.size + 1 := by
    have := (ho.lt g hg).1
    have := h.size
    omega
  rw [Below.heap_setCell _ _ _ _ hne, Below.heap_setCell _ _ _ _ hne]

theorem take_result {W : World} {b : Nat} {u v : Value} (h : W.cell? ⟨b, 0, none⟩ = some u ∧ W.cell? ⟨b, 1, none⟩ = some v) (tmps : Array Value) (h4 : tmps.getD 4 undef = .pointer (some ⟨b, 0, none⟩)) :
    (results Try.f6 tmps).run Try.prog W = .ok (.tuple #[.agg #[u, v], tmps.getD 5 undef, tmps.getD 6 undef]) W := by
  have h5 : tmps[4]?.getD undef = .pointer (some ⟨b, 0, none⟩) := by simpa using h4
  simp [results, Try.results6, go_sem, h5, h.1, h.2]

/-- Take's answer as a value. -/
def takeV (R : Int × List Bd.Bk × Int × Nat) (v : Value) : Value := .tuple #[.agg #[.int .i64 R.1, v], .int .i64 R.2.2.1, .int .i64 (R.2.2.2 : Int)]

set_option maxHeartbeats 2000000 in
theorem take_any (w : World) (N : Int) (a : Option Addr) (c : Nat) (X : List Bd.Bk) (o : Int) (h : PgAt w a X) (hl : X.length ≤ 9223372036854775807) :
    Calls Try.prog 6 #[bud N a X.length c, .int .i64 o] w fun e w' => ∃ v, e = .returned (takeV (Bd.takeA N X o) v) ∧ OwnPg w' w.heap.size v (Bd.takeA N X o).2.1 ∧ Below w.heap.size w w' := by
  have KF := hid fun W (hW : PgAt W a X) => free_any W N a c X hW hl
  have H := hid h
  unfold bud at KF ⊢
  obtain ⟨R, hR⟩ : ∃ R, R = Bd.takeA N X o := ⟨_, rfl⟩
  rw [← hR]
  have HR := hid hR
  clear h hR
  by_cases hc : Bd.check N X = 0
  · have hF : Bd.freeA N X = Bd.free N.toNat X := by unfold Bd.freeA; rw [if_pos hc]
    obtain ⟨n, hNn, hn, hk⟩ := Bd.check_ok hc
    have hFl : (Bd.free N.toNat X).length ≤ 1024 := by
      have h1 := Bd.free_len hn hk
      have h2 := Bd.pow_le hn
      rw [hNn, Int.toNat_natCast]
      omega
    have hXl : X.length ≤ 2000 := by
      have h1 := Bd.chk_len hk
      have h2 := Bd.pow_le hn
      omega
    rw [hc, hF] at KF
    by_cases ho : o < 0 ∨ N < o
    · have HE : Hid (R = (0, [], 0, 1)) := HR.out.trans (Bd.takeA_arg hc ho)
      have hb1 : o < 0 ∨ ¬ o < 0 := by omega
      clear hc hF hNn hk hFl
      rcases hb1 with h1 | h1
      · go_enter Try.func6, Try.ntmps6
        go_wp2_with fail
        have BX := hid (Bx2.mk' w (.int .i64 N) (.slice a X.length c) (.int .i64 0) (.slice none 0 0) 24 24)
        generalize (w.alloc (.cells #[.int .i64 N, .slice a X.length c] 24)).alloc (.cells #[.int .i64 0, .slice none 0 0] 24) = w0 at *
        refine (KF.out _ (H.out.below BX.out.below)).mono ?_
        rintro r w1 ⟨v1, rfl, ho1, hb⟩
        have B1 := hid hb
        obtain ⟨c0, c1⟩ := BX.out.c0 hb
        obtain ⟨e0, e1, f0, f1⟩ := BX.out.c1 hb
        clear hb KF ho1
        go_wp2_with fail
        refine bodyPost_ret (take_result (BX.out.out B1.out _ _) _ rfl) rfl ?_
        exact ⟨_, by rw [HE.out]; rfl, by rw [HE.out]; exact OwnPg.nil _ _, BX.out.end_ B1.out _ _⟩
      · have h2 : N < o := by omega
        go_enter Try.func6, Try.ntmps6
        go_wp2_with fail
        have BX := hid (Bx2.mk' w (.int .i64 N) (.slice a X.length c) (.int .i64 0) (.slice none 0 0) 24 24)
        generalize (w.alloc (.cells #[.int .i64 N, .slice a X.length c] 24)).alloc (.cells #[.int .i64 0, .slice none 0 0] 24) = w0 at *
        refine (KF.out _ (H.out.below BX.out.below)).mono ?_
        rintro r w1 ⟨v1, rfl, ho1, hb⟩
        have B1 := hid hb
        obtain ⟨c0, c1⟩ := BX.out.c0 hb
        obtain ⟨e0, e1, f0, f1⟩ := BX.out.c1 hb
        clear hb KF ho1
        go_wp2_with fail
        refine bodyPost_ret (take_result (BX.out.out B1.out _ _) _ rfl) rfl ?_
        exact ⟨_, by rw [HE.out]; rfl, by rw [HE.out]; exact OwnPg.nil _ _, BX.out.end_ B1.out _ _⟩
    · have HT := hid fun F (hF : F = Bd.free N.toNat X) => And.intro (fun (hh : ∀ y ∈ F, y.o < o) => (HR.out.trans (Bd.takeA_full hc ho (by rw [← hF]; exact hh)))) (fun (i : Nat) (x : Bd.Bk) (hh : Bd.Tight F o i x) => HR.out.trans (Bd.takeA_ok (i := i) (x := x) hc ho (by rw [← hF]; exact hh)))
      have ho1 : ¬ o < 0 := by omega
      have ho2 : ¬ N < o := by omega
      obtain ⟨F, hFe⟩ : ∃ F, F = Bd.free N.toNat X := ⟨_, rfl⟩
      have HT' := hid (HT.out F hFe)
      rw [← hFe] at KF hFl
      clear HT hFe hF hc ho hNn hk
      have KT := hid fun W a' c' (hW : PgAt W a' F) => tightest_any W a' c' F o hW (by omega)
      have KW := hid fun W b (hW : PgAt W a X) => with_any W a c X b hW hXl
      go_enter Try.func6, Try.ntmps6
      go_wp2_with fail
      have BX := hid (Bx2.mk' w (.int .i64 N) (.slice a X.length c) (.int .i64 0) (.slice none 0 0) 24 24)
      generalize (w.alloc (.cells #[.int .i64 N, .slice a X.length c] 24)).alloc (.cells #[.int .i64 0, .slice none 0 0] 24) = w0 at *
      refine (KF.out _ (H.out.below BX.out.below)).mono ?_
      rintro r w1 ⟨v1, rfl, ho1', hb⟩
      have B1 := hid hb
      obtain ⟨c0, c1⟩ := BX.out.c0 hb
      obtain ⟨a1, k1, rfl, hp1, _⟩ := ho1'.at_
      have P1 := hid hp1
      clear hb KF ho1' hp1
      go_wp2_with fail
      refine (KT.out _ _ _ P1.out).mono ?_
      rintro r w2 ⟨b, rfl, hT, hb⟩
      have B2 := hid (below_tr B1.out hb)
      have P2 := hid (P1.out.below hb)
      have HTg := hid hT
      obtain ⟨c0, c1⟩ := BX.out.c0 B2.out
      obtain ⟨e0, e1, f0, f1⟩ := BX.out.c1 B2.out
      clear hb KT hT B1 P1
      unfold Bd.Tg at HTg
      rw [List.take_length] at HTg
      rcases HTg.out with ⟨rfl, hno⟩ | ⟨i, x, rfl, hi, ht⟩
      · have HE := hid (HT'.out.1 hno)
        clear hno HTg HT'
        go_wp2_with fail
        refine bodyPost_ret (take_result (BX.out.out B2.out _ _) _ rfl) rfl ?_
        exact ⟨_, by rw [HE.out]; rfl, by rw [HE.out]; exact OwnPg.nil _ _, BX.out.end_ B2.out _ _⟩
      · have HE := hid (HT'.out.2 i x ht)
        obtain ⟨b2, o2, rfl, d1, d2⟩ := P2.out i x ht.at_
        have i0 : (0 : Int) ≤ (i : Int) := by omega
        have i1 : (i : Int) < (F.length : Int) := by omega
        have i2 : ¬ (i : Int) < 0 := by omega
        obtain ⟨xa, xo⟩ := x
        simp only at d1 d2
        have HX2 := hid (H.out.below (below_tr BX.out.below B2.out))
        have hs2 := BX.out.size
        have hs3 := B2.out.size
        clear ht HTg HT'
        go_wp2_with fail
        go_region_held3 (fun W => W.cell? ⟨w.heap.size, 0, none⟩ = some (.int .i64 N) ∧ W.cell? ⟨w.heap.size, 1, none⟩ = some (.slice a X.length c))
          (first | exact ⟨c0, c1⟩ | (go_split_ands; exact ⟨by assumption, by assumption⟩) | exact spot_set (by omega) (by assumption) (by assumption))
          ((go_at_call 20; refine (KW.out _ ⟨xa, o⟩ HX2.out.drew).mono ?_; rintro r w3 ⟨v3, rfl, ho3, hb3⟩; have B3 := hid (below_tr B2.out (drew_below hb3)); obtain ⟨x0, x1⟩ := BX.out.c0 B3.out; obtain ⟨y0, y1, g0, g1⟩ := BX.out.c1 B3.out; have O3 := hid (ho3.lower (base' := w0.heap.size) hs3); obtain ⟨a3, k3, rfl, _⟩ := ho3.at_; clear hb3 ho3))
        go_wp2_with fail
        refine bodyPost_ret (take_result (BX.out.out B3.out _ _) _ rfl) rfl ?_
        exact ⟨_, by rw [HE.out]; rfl, by rw [HE.out]; exact BX.out.own O3.out, BX.out.end_ B3.out _ _⟩
  · have HE : Hid (R = (0, [], 0, Bd.check N X)) := HR.out.trans (Bd.takeA_bad hc)
    generalize Bd.check N X = C at *
    have hne : ((C : Int) != 0) = true := by simp; omega
    go_enter Try.func6, Try.ntmps6
    go_wp2_with fail
    have BX := hid (Bx2.mk' w (.int .i64 N) (.slice a X.length c) (.int .i64 0) (.slice none 0 0) 24 24)
    generalize (w.alloc (.cells #[.int .i64 N, .slice a X.length c] 24)).alloc (.cells #[.int .i64 0, .slice none 0 0] 24) = w0 at *
    refine (KF.out _ (H.out.below BX.out.below)).mono ?_
    rintro r w1 ⟨v1, rfl, ho1, hb⟩
    have B1 := hid hb
    obtain ⟨c0, c1⟩ := BX.out.c0 hb
    obtain ⟨e0, e1, f0, f1⟩ := BX.out.c1 hb
    clear hb KF ho1
    go_wp2_with fail
    refine bodyPost_ret (take_result (BX.out.out B1.out _ _) _ rfl) rfl ?_
    exact ⟨_, by rw [HE.out]; rfl, by rw [HE.out]; exact OwnPg.nil _ _, BX.out.end_ B1.out _ _⟩

end Go.Proofs.Ytodimkkgmidgcab.PBuddy
