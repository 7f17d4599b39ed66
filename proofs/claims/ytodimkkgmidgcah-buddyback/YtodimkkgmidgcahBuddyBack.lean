/- quirkeep.BuddyBack, walked: it answers true, and nothing that was there has turned. Conditions: how many blocks there are. -/
import Derived.Test.YtodimkkgmidgcahBuddySame
import Derived.Test.YtodimkkgmidgcahBuddyHas
namespace Go.Proofs.Ytodimkkgmidgcah.PBuddy
open Go Go.RowKit PPool
set_option maxRecDepth 100000

theorem take_two : Bd.takeA 2 [] 1 = (2, [⟨0, 1⟩], 0, 0) := by decide
theorem box1 {w : World} {x : Value} {T : TypeId} {w1 : World} (hb : Below (w.alloc (.cells #[x] T)).heap.size (w.alloc (.cells #[x] T)) w1) : w1.cell? ⟨w.heap.size, 0, none⟩ = some x := by
  have hg : w1.heap[w.heap.size]? = some (.cells #[x] T (0, 0)) := (hb.block _ (by simp)).trans (heap_alloc_new w _)
  rw [cell_of_row w1 _ _ _ _ _ hg]; rfl
theorem now2 (w : World) (x y : Value) (T : TypeId) : (w.alloc (.cells #[x, y] T)).cell? ⟨w.heap.size, 0, none⟩ = some x ∧ (w.alloc (.cells #[x, y] T)).cell? ⟨w.heap.size, 1, none⟩ = some y := box2 (Below.refl _ _)
theorem now1 (w : World) (x : Value) (T : TypeId) : (w.alloc (.cells #[x] T)).cell? ⟨w.heap.size, 0, none⟩ = some x := box1 (Below.refl _ _)
/-- Cells that are kept. -/
theorem keep2 {W W' : World} {q r : Addr} {u v : Value} (hb : Below W.heap.size W W') (h : W.cell? q = some u ∧ W.cell? r = some v) : W'.cell? q = some u ∧ W'.cell? r = some v := ⟨keep1 hb h.1, keep1 hb h.2⟩
theorem freeA_mem {N : Int} {X : List Bd.Bk} {x : Bd.Bk} (h : x ∈ Bd.freeA N X) : ∃ xa xo : Nat, x = Bd.bk xa xo ∧ xo ≤ 10 ∧ xa ≤ 1024 := by
  unfold Bd.freeA at h
  split at h
  · rename_i hc
    obtain ⟨n, rfl, hn, hk⟩ := Bd.check_ok hc
    rw [Int.toNat_natCast] at h
    obtain ⟨a, k, rfl, m⟩ := (Bd.free_mem hn hk).1 h
    have h1 := m.1.1
    have h2 := m.1.2.2.1
    have h3 := Bd.pow_le hn
    have h4 := Bd.pow_pos' k
    exact ⟨a, k, rfl, by omega, by omega⟩
  · simp at h
theorem freeA_len (N : Int) (X : List Bd.Bk) : (Bd.freeA N X).length ≤ 1024 := by
  unfold Bd.freeA
  split
  · rename_i hc
    obtain ⟨n, rfl, hn, hk⟩ := Bd.check_ok hc
    rw [Int.toNat_natCast]
    have h1 := Bd.free_len hn hk
    have h3 := Bd.pow_le hn
    omega
  · simp
theorem check_len {N : Int} {Y : List Bd.Bk} (h : Bd.check N Y = 0) : Y.length ≤ 1024 := by
  obtain ⟨n, rfl, hn, hk⟩ := Bd.check_ok h
  have h1 := Bd.chk_len hk
  have h3 := Bd.pow_le hn
  omega
theorem takeA_len (N : Int) (X : List Bd.Bk) (o : Int) : (Bd.takeA N X o).2.1.length ≤ 1024 := by
  obtain ⟨R, hR⟩ : ∃ R, R = Bd.takeA N X o := ⟨_, rfl⟩
  rw [← hR]
  obtain ⟨M, Y, z, C⟩ := R
  show Y.length ≤ 1024
  by_cases hC : C = 0
  · subst hC
    exact check_len (Bd.take_back hR.symm).2.2.1 (N := N)
  · rw [(Bd.take_none hR.symm hC).2.1]; simp

set_option maxHeartbeats 4000000 in
theorem back_walk (w : World) (N : Int) (a : Option Addr) (c : Nat) (X : List Bd.Bk) (k : Int) (h : PgAt w a X) (hl : X.length ≤ 9223372036854775807) :
    Calls Try.prog 4 #[bud N a X.length c, .int .i64 k] w fun e w' => e = .returned (.bool true) ∧ Below w.heap.size w w' := by
  have K0 := hid fun W => take_any W 2 none 0 [] 1 (PgAt.nil W none) (by simp)
  rw [take_two] at K0
  have KT := hid fun W (hW : PgAt W a X) => take_any W N a c X k hW hl
  have KF := hid fun W (hW : PgAt W a X) => free_any W N a c X hW hl
  have hFl := freeA_len N X
  have hYl := takeA_len N X k
  have hFm : Hid (∀ x ∈ Bd.freeA N X, ∃ xa xo : Nat, x = Bd.bk xa xo ∧ xo ≤ 10 ∧ xa ≤ 1024) := fun x hx => freeA_mem hx
  obtain ⟨R, hR⟩ : ∃ R, R = Bd.takeA N X k := ⟨_, rfl⟩
  rw [← hR] at KT hYl
  have HR := hid hR.symm
  have H := hid h
  obtain ⟨M, Y, z, C⟩ := R
  have hcode : Hid (Bd.check N X = 0 → Bd.freeA N X = Bd.free N.toNat X) := fun e => by unfold Bd.freeA; rw [if_pos e]
  unfold bud takeV at *
  simp only at KT K0 hYl
  obtain ⟨F, hF⟩ : ∃ F, F = Bd.freeA N X := ⟨_, rfl⟩
  have HF := hid hF
  rw [← hF] at KF hFl hFm hcode
  obtain ⟨CK, hCK⟩ : ∃ CK, CK = Bd.check N X := ⟨_, rfl⟩
  have HCK := hid hCK
  rw [← hCK] at KF
  clear h hR hF hCK
  go_enter Try.func4, Try.ntmps4
  go_wp2_with fail
  obtain ⟨c0, c1⟩ := keep2 (bx _ (.cells #[.int .i64 k] 3)) (now2 w (.int .i64 N) (.slice a X.length c) 24)
  have c2 := now1 (w.alloc (.cells #[.int .i64 N, .slice a X.length c] 24)) (.int .i64 k) 3
  have B0 := hid (below_tr (bx w (.cells #[.int .i64 N, .slice a X.length c] 24)) (bx _ (.cells #[.int .i64 k] 3)))
  have H0 := hid (H.out.below B0.out)
  rw [World.size_alloc] at c2
  generalize (w.alloc (.cells #[.int .i64 N, .slice a X.length c] 24)).alloc (.cells #[.int .i64 k] 3) = w0 at *
  refine (K0.out _).mono ?_
  rintro r w1 ⟨v1, rfl, ho1, hb⟩
  obtain ⟨g1, k1, rfl, _⟩ := ho1.some (by simp)
  have hb' := below_tr hb (bx w1 (.cells #[.int .i64 2, .slice (some ⟨g1, 0, none⟩) 1 k1] 24))
  obtain ⟨x0, x1⟩ := now2 w1 (.int .i64 2) (.slice (some ⟨g1, 0, none⟩) 1 k1) 24
  replace c0 := keep1 hb' c0
  replace c1 := keep1 hb' c1
  replace c2 := keep1 hb' c2
  have B1 := hid (below_tr B0.out hb')
  have H1 := hid (H0.out.below hb')
  clear hb hb' K0 ho1 B0 H0
  go_wp2_with fail
  generalize w1.alloc (.cells #[.int .i64 2, .slice (some ⟨g1, 0, none⟩) 1 k1] 24) = w2 at *
  refine (KT.out _ H1.out).mono ?_
  rintro r w3 ⟨v3, rfl, ho3, hb⟩
  obtain ⟨a3, k3, rfl, hp3, _⟩ := ho3.at_
  have hb' := below_tr (below_tr hb (bx w3 (.cells #[.int .i64 M, .slice a3 Y.length k3] 24))) (bx _ (.cells #[.int .i64 z] 3))
  obtain ⟨y0, y1⟩ := keep2 (bx _ (.cells #[.int .i64 z] 3)) (now2 w3 (.int .i64 M) (.slice a3 Y.length k3) 24)
  have y2 := now1 (w3.alloc (.cells #[.int .i64 M, .slice a3 Y.length k3] 24)) (.int .i64 z) 3
  rw [World.size_alloc] at y2
  replace c0 := keep1 hb' c0
  replace c1 := keep1 hb' c1
  replace c2 := keep1 hb' c2
  have B3 := hid (below_tr B1.out hb')
  have H3 := hid (H1.out.below hb')
  have P3 := hid (hp3.below (below_tr (bx w3 (.cells #[.int .i64 M, .slice a3 Y.length k3] 24)) (bx _ (.cells #[.int .i64 z] 3))))
  clear hb hb' KT ho3 hp3 B1 H1 x0 x1
  go_wp2_with fail
  generalize (w3.alloc (.cells #[.int .i64 M, .slice a3 Y.length k3] 24)).alloc (.cells #[.int .i64 z] 3) = w4 at *
  refine (KF.out _ H3.out).mono ?_
  rintro r w5 ⟨v5, rfl, ho5, hb⟩
  obtain ⟨a5, k5, rfl, hp5, _⟩ := ho5.at_
  replace c0 := keep1 hb c0
  replace c1 := keep1 hb c1
  replace c2 := keep1 hb c2
  replace y0 := keep1 hb y0
  replace y1 := keep1 hb y1
  replace y2 := keep1 hb y2
  have B5 := hid (below_tr B3.out hb)
  have H5 := hid (H3.out.below hb)
  have P5 := hid (P3.out.below hb)
  have Q5 := hid hp5
  clear hb KF ho5 hp5 B3 H3 P3
  by_cases hC : C = 0
  · subst hC
    obtain ⟨rfl, hD, hCY, hk0, hk10, y, hy, hya, hyo⟩ := Bd.take_back HR.out
    have hCX : Bd.check M X = 0 := by
      refine Classical.byContradiction fun e => ?_
      have h1 := HR.out
      rw [Bd.takeA_bad e] at h1
      injection h1 with _ h1; injection h1 with _ h1; injection h1 with _ h1
      exact e h1
    rw [← hcode.out hCX] at hy
    obtain ⟨ya, yo, rfl, hyo10, hya10⟩ := hFm.out y hy
    obtain rfl : (ya : Int) = z := hya
    obtain ⟨kn, rfl⟩ : ∃ kn : Nat, k = kn := ⟨k.toNat, by omega⟩
    have hkn : kn ≤ 10 := by omega
    have hkyo : kn ≤ yo := by have : (kn : Int) ≤ (yo : Int) := hyo; omega
    have hin : F.any (inB ya kn) = true := by
      refine List.any_eq_true.2 ⟨_, hy, ?_⟩
      unfold inB
      rw [decide_eq_true (show (Bd.bk ya yo).a ≤ (ya : Int) from Int.le_refl _), Bool.true_and, decide_eq_true_eq]
      show (ya : Int) + 2 ^ kn ≤ (ya : Int) + 2 ^ (yo : Int).toNat
      rw [Int.toNat_natCast, ← Bd.cast_pow, ← Bd.cast_pow]
      have := Nat.pow_le_pow_right (n := 2) (by omega) hkyo
      omega
    have KD := hid fun W (hW : PgAt W a3 Y) => drop_any W M a3 k3 Y (ya : Int) hW (by omega)
    rw [hD] at KD
    unfold dropV bud at KD
    simp only at KD
    have KH := hid fun W (hW : PgAt W a5 F) p q (h1 : W.cell? p = some (.int .i64 (ya : Int))) (h2 : W.cell? q = some (.int .i64 (kn : Int))) => has_any W a5 k5 F 14 #[.pointer (some p), .pointer (some q)] (inB ya kn) (fun _ _ => rfl) (fun W' x hx hb => by
      obtain ⟨xa, xo, rfl, hxo, hxa⟩ := hFm.out x hx
      exact back2_any W' xa xo p q ya kn (keep1 hb h1) (keep1 hb h2) hxo hkn hya10 hxa) hW (by omega)
    rw [hin] at KH
    have KS := hid fun W a' c' (hW1 : PgAt W a' X) (hW2 : PgAt W a X) => same_any W M M a' a c' c X X hW1 hW2 hl hl
    have KC := hid fun W (hW : PgAt W a3 Y) => check_any W M a3 k3 Y hW (by omega)
    rw [hCY] at KC
    rw [decide_eq_true rfl, decide_eq_true rfl, Bool.and_self] at KS
    unfold bud at KS KC
    clear hD hCY hy hyo hin hCX HR hk0 hk10 hkyo
    go_wp2_with fail
    refine (KD.out _ P5.out).mono ?_
    rintro r w6 ⟨v6, rfl, ho6, hb⟩
    obtain ⟨a6, k6, rfl, hp6, _⟩ := ho6.at_
    have hb' := below_tr hb (bx w6 (.cells #[.int .i64 M, .slice a6 X.length k6] 24))
    obtain ⟨z0, z1⟩ := now2 w6 (.int .i64 M) (.slice a6 X.length k6) 24
    replace c0 := keep1 hb' c0
    replace c1 := keep1 hb' c1
    replace c2 := keep1 hb' c2
    replace y0 := keep1 hb' y0
    replace y1 := keep1 hb' y1
    replace y2 := keep1 hb' y2
    have B6 := hid (below_tr B5.out hb')
    have H6 := hid (H5.out.below hb')
    have P6 := hid (P5.out.below hb')
    have Q6 := hid (Q5.out.below hb')
    have R6 := hid (hp6.below (bx w6 (.cells #[.int .i64 M, .slice a6 X.length k6] 24)))
    clear hb hb' KD ho6 hp6 B5 H5 P5 Q5
    go_wp2_with fail
    generalize w6.alloc (.cells #[.int .i64 M, .slice a6 X.length k6] 24) = w7 at *
    refine (KH.out _ Q6.out _ _ y2 c2).mono ?_
    rintro r w8 ⟨rfl, hb⟩
    replace c0 := keep1 hb c0
    replace c1 := keep1 hb c1
    replace y0 := keep1 hb y0
    replace y1 := keep1 hb y1
    replace z0 := keep1 hb z0
    replace z1 := keep1 hb z1
    have B8 := hid (below_tr B6.out hb)
    have H8 := hid (H6.out.below hb)
    have P8 := hid (P6.out.below hb)
    have R8 := hid (R6.out.below hb)
    clear hb KH B6 H6 P6 R6 Q6 c2 y2
    go_wp2_with fail
    refine (KS.out _ _ _ R8.out H8.out).mono ?_
    rintro r w9 ⟨rfl, hb⟩
    replace y0 := keep1 hb y0
    replace y1 := keep1 hb y1
    have B9 := hid (below_tr B8.out hb)
    have P9 := hid (P8.out.below hb)
    clear hb KS B8 H8 P8 R8 c0 c1 z0 z1
    go_wp2_with fail
    refine (KC.out _ P9.out).mono ?_
    rintro r w10 ⟨rfl, hb⟩
    have B10 := hid (below_tr B9.out hb)
    clear hb KC
    go_wp2_with fail
    go_ret
    exact ⟨rfl, B10.out⟩
  · have hCn : ((C : Int) != 0) = true := by simp; omega
    obtain ⟨rfl, rfl, rfl, hC8, hor⟩ := Bd.take_none HR.out hC
    have KH := hid (has_any w5 a5 k5 F 12 #[.pointer (some ⟨w.heap.size + 1, 0, none⟩)] (fun x => decide (k ≤ x.o)) (fun _ _ => rfl) (fun W' x _ hb => back1_any W' x ⟨w.heap.size + 1, 0, none⟩ k (keep1 hb c2)) Q5.out (by omega))
    have hfin : Hid (((CK : Int) != 0) = true ∨ (((CK : Int) != 0) = false ∧ ((C : Int) != 8) = true) ∨ (((CK : Int) != 0) = false ∧ ((C : Int) != 8) = false ∧ F.any (fun x => decide (k ≤ x.o)) = false)) := by
      show _ ∨ _
      by_cases e1 : CK = 0
      · have e2 : ((CK : Int) != 0) = false := by simp [e1]
        right
        by_cases e3 : C = 8
        · right
          refine ⟨e2, by simp [e3], ?_⟩
          rw [Bool.eq_false_iff]
          intro ha
          obtain ⟨x, hx, hp⟩ := List.any_eq_true.1 ha
          rcases hor with g | g | g
          · exact g (HCK.out ▸ e1)
          · exact g e3
          · rw [hcode.out (HCK.out ▸ e1)] at hx
            have := g x hx
            simp at hp
            omega
        · left
          exact ⟨e2, by simp; omega⟩
      · left
        simp; omega
    generalize F.any (fun x => decide (k ≤ x.o)) = fits at *
    clear hor hC HR
    go_wp2_with fail
    refine KH.out.mono ?_
    rintro r w6 ⟨rfl, hb⟩
    replace y1 := keep1 hb y1
    replace y2 := keep1 hb y2
    have B6 := hid (below_tr B5.out hb)
    clear hb KH B5 c0 c1 c2 y0
    rcases hfin.out with g | ⟨g, g'⟩ | ⟨g, g', rfl⟩
    · clear hfin
      go_wp2_with fail
      go_ret
      exact ⟨rfl, B6.out⟩
    · clear hfin
      go_wp2_with fail
      go_ret
      exact ⟨rfl, B6.out⟩
    · clear hfin
      go_wp2_with fail
      go_ret
      exact ⟨rfl, B6.out⟩

end Go.Proofs.Ytodimkkgmidgcah.PBuddy
