/- quirlaw.BuddySays, walked: it answers true, and nothing that was there has turned. Conditions: how many blocks there are. -/
import Derived.Test.YtodimkkgmidgcabBuddySaysC
namespace Go.Proofs.Ytodimkkgmidgcab.PBuddy
open Go Go.RowKit PPool
set_option maxRecDepth 100000

theorem says_k {n : Nat} {k : Int} (h : ¬ (k < 0 ∨ (n : Int) < k)) : ¬ k < 0 ∧ ¬ (n : Int) < k ∧ ∃ kn : Nat, k = kn ∧ kn ≤ n := ⟨by omega, by omega, k.toNat, by omega, by omega⟩
theorem says_s {s n : Nat} (h : s ≤ n) (hn : n ≤ 10) : (s : Int) ≤ (n : Int) ∧ (s : Int) ≤ 10 := ⟨by omega, by omega⟩
theorem says_lt {o : Int} {s : Nat} (h1 : (s : Int) ≤ o) (h2 : o ≠ (s : Int)) : (s : Int) < o := by omega
theorem says_no {s n : Nat} (h : ¬ s ≤ n) : ¬ (s : Int) ≤ (n : Int) := by omega
theorem says_up {o : Int} {s : Nat} (h1 : (s : Int) ≤ o) (h2 : o ≠ (s : Int)) : ((s + 1 : Nat) : Int) ≤ o := by omega
theorem says_full {o : Int} {s n kn : Nat} (h1 : o ≤ (n : Int)) (h2 : ¬ s ≤ n) (h3 : (kn : Int) ≤ o → (s : Int) ≤ o) : o < (kn : Int) := by omega

set_option maxHeartbeats 8000000 in
theorem says_walk (w : World) (N : Int) (a : Option Addr) (c : Nat) (X : List Bd.Bk) (k z : Int) (h : PgAt w a X) (hn : X.length * 16 ≤ 140737488351232) (hc : X.length ≤ c) :
    Calls Try.prog 3 #[bud N a X.length c, .int .i64 k, .int .i64 z] w fun e w' => e = .returned (.bool true) ∧ Below w.heap.size w w' := by
  have KErr := hid fun W (hW : PgAt W a X) => err_any W N a c X hW (by omega)
  have KFree := hid fun W (hW : PgAt W a X) => free_any W N a c X hW (by omega)
  have KTake := hid fun W (hW : PgAt W a X) => take_any W N a c X k hW (by omega)
  have KDrop := hid fun W (hW : PgAt W a X) => drop_any W N a c X z hW (by omega)
  have KChk := hid fun W (hW : PgAt W a X) => check_any W N a c X hW (by omega)
  have hp40 := takeA_len N X k
  have hf40 := freeA_len N X
  have hck4 := Bd.check_le N X
  have H := hid h
  have HXL : Hid (X.length ≤ 140737488355328) := by show _ ≤ _; omega
  unfold bud takeV at *
  unfold dropV at KDrop
  obtain ⟨P, hP⟩ : ∃ P, P = Bd.takeA N X k := ⟨_, rfl⟩
  obtain ⟨D, hD⟩ : ∃ D, D = Bd.dropA N X z := ⟨_, rfl⟩
  obtain ⟨F, hF⟩ : ∃ F, F = Bd.freeA N X := ⟨_, rfl⟩
  obtain ⟨CK, hCK⟩ : ∃ CK, CK = Bd.check N X := ⟨_, rfl⟩
  rw [← hP] at KTake hp40
  rw [← hD] at KDrop
  rw [← hF, ← hCK] at KFree
  rw [← hF] at hf40
  rw [← hCK] at KErr KChk hck4
  have HP := hid hP
  have HD := hid hD
  have HF := hid hF
  have HCK := hid hCK
  obtain ⟨P0, P1, P2, P3⟩ := P
  obtain ⟨D0, D1, D2⟩ := D
  simp only at hp40 KTake KDrop
  have HP40 := hid hp40
  have HF40 := hid hf40
  have HCC := hid hc
  have hck : (CK : Int) ≤ 4 := by omega
  clear h hn hP hD hF hCK hp40 hf40 hck4 hc
  go_enter Try.func3, Try.ntmps3
  go_wp2_with fail
  obtain ⟨c0, c1⟩ := keep2 (bx _ (.cells #[.int .i64 z] 3)) (now2 w (.int .i64 N) (.slice a X.length c) 24)
  have c5 := now1 (w.alloc (.cells #[.int .i64 N, .slice a X.length c] 24)) (.int .i64 z) 3
  rw [World.size_alloc] at c5
  have B0 := hid (below_tr (bx w (.cells #[.int .i64 N, .slice a X.length c] 24)) (bx _ (.cells #[.int .i64 z] 3)))
  have H0 := hid (H.out.below B0.out)
  generalize (w.alloc (.cells #[.int .i64 N, .slice a X.length c] 24)).alloc (.cells #[.int .i64 z] 3) = w0 at *
  refine (KErr.out _ H0.out).mono ?_
  rintro r w1 ⟨rfl, hb⟩
  replace c0 := keep1 hb c0
  replace c1 := keep1 hb c1
  replace c5 := keep1 hb c5
  have B1 := hid (below_tr B0.out hb)
  have H1 := hid (H0.out.below hb)
  clear hb KErr B0 H0
  go_wp2_with fail
  refine (KFree.out _ H1.out).mono ?_
  rintro r w2 ⟨v2, rfl, ho2, hb⟩
  obtain ⟨fa, fc, rfl, hp2, -⟩ := ho2.at_
  replace c0 := keep1 hb c0
  replace c1 := keep1 hb c1
  replace c5 := keep1 hb c5
  have B2 := hid (below_tr B1.out hb)
  have H2 := hid (H1.out.below hb)
  have F2 := hid hp2
  clear hb KFree B1 H1 ho2 hp2
  go_wp2_with fail
  refine (KTake.out _ H2.out).mono ?_
  rintro r w3 ⟨v3, rfl, ho3, hb⟩
  obtain ⟨xa, xc, rfl, hp3, -⟩ := ho3.at_
  have hb' := below_tr hb (bx w3 (.cells #[.int .i64 P0, .slice xa P1.length xc] 24))
  obtain ⟨x0, x1⟩ := now2 w3 (.int .i64 P0) (.slice xa P1.length xc) 24
  replace c0 := keep1 hb' c0
  replace c1 := keep1 hb' c1
  replace c5 := keep1 hb' c5
  have B3 := hid (below_tr B2.out hb')
  have H3 := hid (H2.out.below hb')
  have F3 := hid (F2.out.below hb')
  have X3 := hid (hp3.below (bx w3 (.cells #[.int .i64 P0, .slice xa P1.length xc] 24)))
  clear hb hb' KTake B2 H2 F2 ho3 hp3
  go_wp2_with fail
  generalize w3.heap.size = xb at *
  generalize w3.alloc (.cells #[.int .i64 P0, .slice xa P1.length xc] 24) = W3 at *
  refine (KDrop.out _ H3.out).mono ?_
  rintro r w4 ⟨v4, rfl, ho4, hb⟩
  obtain ⟨ya, yc, rfl, hp4, -⟩ := ho4.at_
  have hbx := below_tr (bx w4 (.cells #[.int .i64 D0, .slice ya D1.length yc] 24)) (bx _ (.cells #[.int .i64 0, .slice none 0 0] 24))
  have hb' := below_tr hb hbx
  obtain ⟨y0, y1⟩ := keep2 (bx _ (.cells #[.int .i64 0, .slice none 0 0] 24)) (now2 w4 (.int .i64 D0) (.slice ya D1.length yc) 24)
  obtain ⟨n0, n1⟩ := now2 (w4.alloc (.cells #[.int .i64 D0, .slice ya D1.length yc] 24)) (.int .i64 0) (.slice none 0 0) 24
  rw [World.size_alloc] at n0 n1
  have S4 : Hid (St w ((w4.alloc (.cells #[.int .i64 D0, .slice ya D1.length yc] 24)).alloc (.cells #[.int .i64 0, .slice none 0 0] 24)) N a c X z xb P0 xa xc P1 w4.heap.size D0 ya yc D1 (w4.heap.size + 1)) :=
    ⟨below_tr B3.out hb', keep1 hb' c0, keep1 hb' c1, keep1 hb' c5, keep1 hb' x0, keep1 hb' x1, y0, y1, n0, n1, H3.out.below hb', X3.out.below hb', hp4.below hbx⟩
  have F4 := hid (F3.out.below hb')
  replace c0 := keep1 hb' c0
  replace c1 := keep1 hb' c1
  clear hb hb' hbx KDrop B3 H3 F3 X3 ho4 hp4 c5 x0 x1 y0 y1 n0 n1
  go_wp2_with fail
  generalize w4.heap.size + 1 = nb at *
  generalize (w4.alloc (.cells #[.int .i64 D0, .slice ya D1.length yc] 24)).alloc (.cells #[.int .i64 0, .slice none 0 0] 24) = W4 at *
  generalize w4.heap.size = yb at *
  refine (KChk.out _ S4.out.pa).mono ?_
  rintro r w5 ⟨rfl, hb⟩
  have S5 := hid (S4.out.keep hb)
  have F5 := hid (F4.out.below hb)
  have hcc : ((CK : Int) != (CK : Int)) = false := by simp
  have hcc' : ((CK : Int) == (CK : Int)) = true := by simp
  clear hb KChk S4 F4 c0 c1
  by_cases hck0 : CK = 0
  · subst hck0
    obtain ⟨n, rfl, hn, hk⟩ := Bd.check_ok HCK.out.symm
    have hFe : F = Bd.free n X := HF.out.trans (by unfold Bd.freeA; rw [if_pos HCK.out.symm, Int.toNat_natCast])
    have HFE := hid hFe
    have KRef := hid fun W (hW : PgAt W a X) => refFree_any W n a c X hW hn hk
    rw [← hFe] at KRef
    have hXl : X.length ≤ 1024 := check_len (N := (n : Int)) HCK.out.symm
    have KIdx := hid fun W (hW : PgAt W a X) (hq : W.cell? ⟨w.heap.size + 1, 0, none⟩ = some (.int .i64 z)) => index_any W a c X 13 #[.pointer (some ⟨w.heap.size + 1, 0, none⟩)] (fun x => decide (x.a = z)) (fun _ _ => rfl) (fun W' x _ hb => says1_any W' x ⟨w.heap.size + 1, 0, none⟩ z (keep1 hb hq)) hW (Nat.le_trans hXl (by decide))
    rw [ix_spot] at KIdx
    have hl24 : (X.length : Int) ≤ 1024 := Int.ofNat_le.2 hXl
    have HNN := hid hn
    have HK := hid hk
    have HXl := hid hXl
    unfold bud at KRef
    have c0 := S5.out.c0
    have c1 := S5.out.c1
    clear hFe hXl hn hk HF
    go_wp2_with fail
    refine (KRef.out _ S5.out.pa).mono ?_
    rintro r w6 ⟨v6, rfl, ho6, hb⟩
    obtain ⟨ga, gc, rfl, hp6, -⟩ := ho6.at_
    have S6 := hid (S5.out.keep hb)
    have F6 := hid (F5.out.below hb)
    have G6 := hid hp6
    have KEq := equal_any w6 fa ga fc gc F F F6.out hp6 (Nat.le_trans HF40.out (by decide)) (Nat.le_trans HF40.out (by decide))
    rw [decide_eq_true rfl] at KEq
    have KEqh := hid KEq
    clear hb KRef S5 F5 ho6 hp6 KEq c0 c1
    go_wp2_with fail
    refine KEqh.out.mono ?_
    rintro r w7 ⟨rfl, hb⟩
    have S7 := hid (S6.out.keep hb)
    have G7 := hid (G6.out.below hb)
    have c1 := S7.out.c1
    clear hb KEqh S6 F6 G6
    go_wp2_with fail
    refine (KIdx.out _ S7.out.pa S7.out.c5).mono ?_
    rintro r w8 ⟨rfl, hb⟩
    have S8 := hid (S7.out.keep hb)
    have G8 := hid (G7.out.below hb)
    obtain ⟨I, hI⟩ : ∃ I : Int, I = if Bd.spot X z = X.length then -1 else (Bd.spot X z : Int) := ⟨_, rfl⟩
    rw [← hI]
    have HI := hid hI
    clear hb KIdx S7 G7 c1 hI
    go_upto_if 97 with fail
    go_cut [17, 95] from 96 to 126 (fun _ _ wx => Hid (Below w8.heap.size w8 wx))
    case first =>
      by_cases hs : Bd.spot X z = X.length
      · have hneg : I < 0 := by rw [HI.out, if_pos hs]; decide
        have hDe : (D0, D1, D2) = ((0 : Int), ([] : List Bd.Bk), 6) := HD.out.trans (by unfold Bd.dropA; rw [if_neg (by rw [← HCK.out]; simp), if_pos hs])
        injection hDe with d0 hDe
        injection hDe with d1 d2
        have KY := hid (same_true w8 D0 0 ya none yc 0 D1 [] d0 d1 S8.out.py (PgAt.nil _ _) (by rw [d1]; exact Nat.zero_le _))
        have h6 : ((D2 : Int) != 6) = false := by rw [d2]; rfl
        have y0 := S8.out.y0
        have y1 := S8.out.y1
        have n0 := S8.out.n0
        have n1 := S8.out.n1
        clear d0 d1 d2 hs HI
        simp only [List.length_nil] at KY
        go_wp2_with fail
        refine KY.out.mono ?_
        rintro r w9 ⟨rfl, hb⟩
        have B9 := hid hb
        clear hb KY y0 y1 n0 n1
        go_wp2_with fail
        go_meet
        case rel => exact B9
      · have hsl : Bd.spot X z < X.length := Nat.lt_of_le_of_ne (Bd.spot_le X z) hs
        have hDe : (D0, D1, D2) = ((n : Int), X.eraseIdx (Bd.spot X z), 0) := HD.out.trans (by unfold Bd.dropA; rw [if_neg (by rw [← HCK.out]; simp), if_neg hs])
        have hIe : I = (Bd.spot X z : Int) := by rw [HI.out, if_neg hs]
        clear hs HI HD
        generalize Bd.spot X z = s at *
        subst hIe
        injection hDe with d0 hDe
        injection hDe with d1 d2
        rw [List.eraseIdx_eq_take_drop_succ] at d1
        obtain ⟨x, hx⟩ : ∃ x, X[s]? = some x := ⟨_, List.getElem?_eq_getElem hsl⟩
        obtain ⟨bb, oo, ea, -, -⟩ := S8.out.pa s x hx
        subst ea
        obtain ⟨A, hv1, hv2, hpp⟩ := parts bb oo X.length c s X rfl hsl HCC.out
        have h0 : ((D2 : Int) != 0) = false := by rw [d2]; rfl
        have SB : Hid (∀ W, Below w8.heap.size w8 W → W.cell? ⟨yb, 0, none⟩ = some (.int .i64 D0) ∧ W.cell? ⟨yb, 1, none⟩ = some (.slice ya D1.length yc) ∧ W.cell? ⟨w.heap.size, 0, none⟩ = some (.int .i64 (n : Int)) ∧ W.cell? ⟨w.heap.size, 1, none⟩ = some (.slice (some ⟨bb, oo, none⟩) X.length c)) := fun W hW => ⟨(S8.out.keep hW).y0, (S8.out.keep hW).y1, (S8.out.keep hW).c0, (S8.out.keep hW).c1⟩
        have hl1 : (X.take s).length ≤ 2000 := by rw [List.length_take]; exact Nat.le_trans (Nat.min_le_right _ _) (Nat.le_trans HXl.out (by decide))
        have hl2 : (X.drop (s + 1)).length ≤ 2000 := by rw [List.length_drop]; exact Nat.le_trans (Nat.sub_le _ _) (Nat.le_trans HXl.out (by decide))
        have hD1 : D1.length ≤ 140737488355328 := by rw [d1, List.length_append]; exact Nat.le_trans (Nat.add_le_add hl1 hl2) (by decide)
        have KCat := hid fun W rb h1 h2 q1 q2 => concat_any W rb (some ⟨bb, oo, none⟩) (some A) c (c - (s + 1)) (X.take s) (X.drop (s + 1)) h1 h2 (fun e => by cases e) (fun e => by cases e) q1 q2 hl1 hl2
        have KS := hid fun W a' c' (hS : St w W (n : Int) (some ⟨bb, oo, none⟩) c X z xb P0 xa xc P1 yb D0 ya yc D1 nb) (hp : PgAt W a' (X.take s ++ X.drop (s + 1))) => same_true W D0 (n : Int) ya a' yc c' D1 (X.take s ++ X.drop (s + 1)) d0 d1 hS.py hp hD1
        have i0 : (0 : Int) ≤ (s : Int) := Int.natCast_nonneg s
        have i1 : (s : Int) < (X.length : Int) := Int.ofNat_lt.2 hsl
        have i2 : ¬ (s : Int) < 0 := Int.not_lt.2 i0
        have i3 : IntKind.i64.wrap ((s : Int) + 1) = (s : Int) + 1 := IntWalk.i64_in _ ⟨by omega, by omega⟩
        clear hx d0 d1 d2 hl1 hl2 hD1 hsl
        generalize X.take s = X1 at *
        generalize X.drop (s + 1) = X2 at *
        have KCat9 : Hid (Calls Try.prog 14 #[.slice (some ⟨w8.heap.size, 0, none⟩) 2 2] (w8.alloc (.cells #[.slice (some ⟨bb, oo, none⟩) X1.length c, .slice (some A) X2.length (c - (s + 1))] 22)).drew fun e w' => ∃ v, e = .returned v ∧ OwnPg w' (w8.alloc (.cells #[.slice (some ⟨bb, oo, none⟩) X1.length c, .slice (some A) X2.length (c - (s + 1))] 22)).drew.heap.size v (X1 ++ X2) ∧ Below (w8.alloc (.cells #[.slice (some ⟨bb, oo, none⟩) X1.length c, .slice (some A) X2.length (c - (s + 1))] 22)).drew.heap.size (w8.alloc (.cells #[.slice (some ⟨bb, oo, none⟩) X1.length c, .slice (some A) X2.length (c - (s + 1))] 22)).drew w') :=
          KCat.out (w8.alloc (.cells #[.slice (some ⟨bb, oo, none⟩) X1.length c, .slice (some A) X2.length (c - (s + 1))] 22)).drew w8.heap.size ((hpp _ (S8.out.pa.below (bx _ _))).1).drew ((hpp _ (S8.out.pa.below (bx _ _))).2).drew (now2 w8 _ _ _).1 (now2 w8 _ _ _).2
        clear hpp KCat
        generalize X1 ++ X2 = X12 at *
        go_wp2_with fail
        go_region_held3 (fun W => W.cell? ⟨yb, 0, none⟩ = some (.int .i64 D0) ∧ W.cell? ⟨yb, 1, none⟩ = some (.slice ya D1.length yc) ∧ W.cell? ⟨w.heap.size, 0, none⟩ = some (.int .i64 (n : Int)) ∧ W.cell? ⟨w.heap.size, 1, none⟩ = some (.slice (some ⟨bb, oo, none⟩) X.length c))
          ((refine SB.out _ ?_; first | exact C9.out | exact C10.out | repeat (first | exact Below.refl _ _ | refine Below.drew ?_ | (refine Below.alloc ?_ (by simp) _))))
          ((first | (go_at_call 14; refine KCat9.out.mono ?_; rintro r w9 ⟨v9, rfl, ho9, hb⟩; obtain ⟨a9, c9, rfl, hp9, -⟩ := ho9.at_; have C9 := hid (below_tr (bx _ _) (drew_below hb)); have S9 := hid (S8.out.keep C9.out); have Q9 := hid hp9; clear hb ho9 hp9) | (go_at_call 9; refine (KS.out _ a9 c9 S9.out Q9.out).mono ?_; rintro r w10 ⟨rfl, hb⟩; have C10 := hid (below_tr C9.out hb); clear hb)))
        go_wp2_with fail
        go_meet
        case rel => exact C10
    case rest =>
      have S9 := hid (S8.out.keep hcut.out)
      have G9 := hid (G8.out.below hcut.out)
      have c0 := S9.out.c0
      have HPE : Hid ((P0, P1, P2, P3) = Bd.takeA (n : Int) X k) := HP.out
      clear S8 G8 hcut HI HD HP
      by_cases hko : k < 0 ∨ (n : Int) < k
      · have hPe := HPE.out.trans (Bd.takeA_arg HCK.out.symm hko)
        injection hPe with p0 hPe
        injection hPe with p1 hPe
        injection hPe with p2 p3
        subst p0; subst p1; subst p2; subst p3
        have KX := hid (same_true wc 0 0 xa none xc 0 [] [] rfl rfl S9.out.px (PgAt.nil _ _) (Nat.zero_le _))
        have x0 := S9.out.x0
        have x1 := S9.out.x1
        have n0 := S9.out.n0
        have n1 := S9.out.n1
        simp only [List.length_nil] at x1 KX
        clear HPE G9
        by_cases h1 : k < 0
        · clear hko
          go_wp2_with fail
          refine KX.out.mono ?_
          rintro r w10 ⟨rfl, hb⟩
          have B10 := hid (below_tr S9.out.old hb)
          clear hb KX x0 x1 n0 n1 c0
          go_wp2_with fail
          go_ret
          exact ⟨rfl, B10.out⟩
        · have h2 : (n : Int) < k := hko.resolve_left h1
          clear hko
          go_wp2_with fail
          refine KX.out.mono ?_
          rintro r w10 ⟨rfl, hb⟩
          have B10 := hid (below_tr S9.out.old hb)
          clear hb KX x0 x1 n0 n1 c0
          go_wp2_with fail
          go_ret
          exact ⟨rfl, B10.out⟩
      · have HKO := hid hko
        obtain ⟨h1, h2, kn, rfl, hkn⟩ := says_k hko
        have HKN := hid hkn
        have HFm : Hid (∀ y ∈ F, y.o ≤ (n : Int)) := fun y hy => by
          rw [HFE.out] at hy
          obtain ⟨ya', yo', rfl, m⟩ := (Bd.free_mem HNN.out HK.out).1 hy
          exact Int.ofNat_le.2 m.1.1
        have hn10 : (n : Int) ≤ 10 := Int.ofNat_le.2 HNN.out
        clear hko hkn
        go_wp2_with fail
        clear h1 h2
        go_loopw [18] (fun sv ws => ∃ s : Nat, kn ≤ s ∧ s ≤ n + 1 ∧ sv = .int .i64 (s : Int) ∧ Hid (∀ y ∈ F, (kn : Int) ≤ y.o → (s : Int) ≤ y.o) ∧ Hid (Below wc.heap.size wc ws)) (fun sv _ => n + 1 - (intOf sv).toNat)
        case atStart => exact ⟨kn, Nat.le_refl _, Nat.le_succ_of_le HKN.out, rfl, fun y _ h => h, Below.refl _ _⟩
        case round =>
          obtain ⟨s, hks, hsn, rfl, hA, hB⟩ := hrel
          have e0 := keep1 hB.out c0
          by_cases hs : s ≤ n
          · obtain ⟨s1, s2⟩ := says_s hs HNN.out
            have HS := hid hs
            have HKS := hid hks
            clear hs hks hsn
            go_wp2_with fail
            go_loopw [155] (fun i wt => ∃ j : Nat, j ≤ F.length ∧ i = .int .i64 (j : Int) ∧ Hid (∀ t y, t < j → F[t]? = some y → y.o ≠ (s : Int)) ∧ Hid (Below wr.heap.size wr wt)) (fun i _ => F.length - (intOf i).toNat)
            case atStart => exact ⟨0, Nat.zero_le _, rfl, fun t y ht => absurd ht (Nat.not_lt_zero _), Below.refl _ _⟩
            case round =>
              obtain ⟨j, hjl, rfl, hN, hC⟩ := hrel
              by_cases hlt : j < F.length
              · obtain ⟨y, hy⟩ : ∃ y, F[j]? = some y := ⟨_, List.getElem?_eq_getElem hlt⟩
                have BC := hid (below_tr hB.out hC.out)
                obtain ⟨bb, oo, rfl, d1, d2⟩ := (G9.out.below BC.out) j y hy
                obtain ⟨k0, k1⟩ := rf_k hlt
                have hj24 : (j : Int) ≤ 1024 := Int.le_trans (Int.le_of_lt k1) (Int.ofNat_le.2 HF40.out)
                have HLT := hid hlt
                have HY := hid hy
                obtain ⟨fa', fo⟩ := y
                simp only at d1 d2
                by_cases hos : fo = (s : Int)
                · subst hos
                  have hT8 : Bd.Tight F (kn : Int) j ⟨fa', (s : Int)⟩ := ⟨HY.out, Int.ofNat_le.2 HKS.out, fun t y ht hty hk' => says_lt (hA.out y (List.mem_of_getElem? hty) hk') (hN.out t y ht hty), fun y hy hk' => hA.out y hy hk'⟩
                  have hPe := HPE.out.trans (Bd.takeA_ok (i := j) (x := ⟨fa', (s : Int)⟩) HCK.out.symm HKO.out (by rw [Int.toNat_natCast, ← HFE.out]; exact hT8))
                  injection hPe with p0 hPe
                  injection hPe with p1 hPe
                  injection hPe with p2 p3
                  subst p0; subst p3
                  have HP1 := hid p1
                  have hp2 : (P2 == fa') = true := by rw [p2]; simp
                  have S20 := hid ((S9.out.keep BC.out).keep (bx wr (.cells #[.int .i64 fa', .int .i64 (s : Int)] 37)))
                  have Y20 := hid (now2 wr (.int .i64 fa') (.int .i64 (s : Int)) 37).1
                  clear hT8 p1 p2 hN hA hC hlt hjl hy BC e0 HY HPE HLT G9
                  go_wp2_with fail
                  clear d1 d2 k0 k1 hj24
                  generalize wr.heap.size = b20 at *
                  generalize wr.alloc (.cells #[.int .i64 fa', .int .i64 (s : Int)] 37) = W2 at *
                  go_loopw [21] (fun jv wt => ∃ t : Nat, t ≤ X.length ∧ jv = .int .i64 (t : Int) ∧ Hid (∀ i x, i < t → X[i]? = some x → x.a < fa') ∧ Hid (Below W2.heap.size W2 wt)) (fun jv _ => X.length - (intOf jv).toNat)
                  case atStart => exact ⟨0, Nat.zero_le _, rfl, fun i x hi => absurd hi (Nat.not_lt_zero _), Below.refl _ _⟩
                  case round =>
                    obtain ⟨t, htl, rfl, hM, hT⟩ := hrel
                    have S21 := hid (S20.out.keep hT.out)
                    have c21 := S21.out.c1
                    have y21 := keep1 hT.out Y20.out
                    by_cases hlt : t < X.length
                    · obtain ⟨x, hx⟩ : ∃ x, X[t]? = some x := ⟨_, List.getElem?_eq_getElem hlt⟩
                      obtain ⟨b7, o7, e7, d1, d2⟩ := S21.out.pa t x hx
                      subst e7
                      obtain ⟨k0, k1⟩ := rf_k hlt
                      have k2 : decide ((t : Int) < (X.length : Int)) = true := by simpa using hlt
                      have k3 : decide (t < X.length) = true := by simpa using hlt
                      have HX := hid hx
                      have HLT := hid hlt
                      have hTL := hid htl
                      obtain ⟨xxa, xxo⟩ := x
                      simp only at d1 d2
                      by_cases hl2' : xxa < fa'
                      · have NM : Hid (∀ i x, i < t + 1 → X[i]? = some x → x.a < fa') := fun i x hi hx' => by
                          by_cases e : i = t
                          · subst e
                            rw [HX.out] at hx'
                            cases hx'; exact hl2'
                          · exact hM.out i x (Nat.lt_of_le_of_ne (Nat.le_of_lt_succ hi) e) hx'
                        have j1 : decide (xxa < fa') = true := decide_eq_true hl2'
                        clear hM hx hlt htl hl2' HX S21
                        go_wp2_with fail
                        go_quiet (fail)
                        go_wp2_with fail
                        go_roundw
                        case rel => exact ⟨t + 1, HLT.out, by go_num, NM, hid (below_drewN hT.out _)⟩
                        case measure => exact inner_meas HLT.out
                      · have HE : Hid (P1 = X.take t ++ ⟨fa', (kn : Int)⟩ :: X.drop t) := by
                          show _ = _
                          rw [HP1.out]
                          unfold Bd.ins
                          simp only
                          rw [Bd.idx_of htl hM.out (fun y hy => by rw [HX.out] at hy; cases hy; exact Int.not_lt.1 hl2')]
                        have j1 : decide (xxa < fa') = false := decide_eq_false hl2'
                        clear hM hx hlt htl hl2' HX S21 HP1
                        go_wp2_with fail
                        go_quiet (fail)
                        go_wp2_with fail
                        have HWb : Hid (Below W2.heap.size W2 (wr.drewN nq)) := below_drewN hT.out _
                        have HPx : Hid (PgAt (wr.drewN nq) (some ⟨b7, o7, none⟩) X) := (S20.out.keep HWb.out).pa
                        have S30 := hid (S20.out.keep HWb.out)
                        have y30 := keep1 HWb.out Y20.out
                        have c30 := S30.out.c0
                        have c31 := S30.out.c1
                        clear hT HWb
                        generalize wr.drewN nq = W0 at *
                        have SB : Hid (∀ W, Below W0.heap.size W0 W → W.cell? ⟨w.heap.size, 0, none⟩ = some (.int .i64 (n : Int)) ∧ W.cell? ⟨w.heap.size, 1, none⟩ = some (.slice ((some ⟨b7, o7, none⟩)) X.length c) ∧ W.cell? ⟨b20, 0, none⟩ = some (.int .i64 fa')) := fun W hW => ⟨keep1 hW c30, keep1 hW c31, keep1 hW y30⟩
                        have KC := hid fun W (hW : PgAt W (some ⟨b7, o7, none⟩) X) => clone_any W (some ⟨b7, o7, none⟩) c X hW (Nat.le_trans (Nat.mul_le_mul_right 16 HXl.out) (by decide))
                        have KI := hid fun W v vb hO hv hne hB => insert_any W W0.heap.size v t vb X ⟨fa', (kn : Int)⟩ hO hv hne (Nat.le_trans HXl.out (by decide)) hTL.out hB
                        go_region_held3 (fun W => W.cell? ⟨w.heap.size, 0, none⟩ = some (.int .i64 (n : Int)) ∧ W.cell? ⟨w.heap.size, 1, none⟩ = some (.slice ((some ⟨b7, o7, none⟩)) X.length c) ∧ W.cell? ⟨b20, 0, none⟩ = some (.int .i64 fa'))
                          ((refine SB.out _ ?_; first | exact ME0.out.below | exact ME1.out.below | exact ME2.out.below | exact ME3.out.below | exact ML.out.below | exact B5.out | exact B1.out | (refine Below.alloc B5.out B5.out.size _) | (refine Below.alloc B1.out HW01.out _) | (refine Below.alloc (Below.alloc B1.out HW01.out _) (by have := HW01.out; simp; omega) _) | repeat (first | exact Below.refl _ _ | refine Below.drew ?_ | (refine Below.alloc ?_ (by simp) _))))
                          ((first | (go_at_call 16; refine (KC.out _ (PgAt.below HPx.out (by repeat (first | exact Below.refl _ _ | refine Below.drew ?_ | (refine Below.alloc ?_ (by simp) _))))).mono ?_; rintro r w1 ⟨v1, rfl, ho1, hb1⟩; have L1 := hid fun q hq => ho1.lt q hq; have O1 : Hid (OwnPg w1 W0.heap.size v1 X) := ho1.lower (by first | exact Nat.le_refl _ | (simp; done) | (simp; omega)); have B1 : Hid (Below W0.heap.size W0 w1) := Below.trans (by repeat (first | exact Below.refl _ _ | refine Below.drew ?_ | (refine Below.alloc ?_ (by simp) _))) (hb1.mono (by first | exact Nat.le_refl _ | (simp; done) | (simp; omega))); (try (have ZB0 : Hid (OneAt w1 W0.heap.size ⟨fa', (kn : Int)⟩) := (hb1.block W0.heap.size (by first | (simp; done) | (simp; omega))).trans (by first | exact heap_alloc_new W0 (.cells #[.int .i64 fa', .int .i64 (kn : Int)] 37) | exact (Below.heap_alloc (W0.alloc (.cells #[.int .i64 fa', .int .i64 (kn : Int)] 37)) _ _ (by simp)).trans (heap_alloc_new W0 (.cells #[.int .i64 fa', .int .i64 (kn : Int)] 37))))); (try (have ZB1 : Hid (OneAt w1 (W0.heap.size + 1) ⟨fa', (kn : Int)⟩) := (hb1.block (W0.heap.size + 1) (by first | (simp; done) | (simp; omega))).trans (by have h := heap_alloc_new (W0.alloc (.cells #[.int .i64 0, .slice none 0 0] 24)) (.cells #[.int .i64 fa', .int .i64 (kn : Int)] 37); rw [World.size_alloc] at h; exact h))); (try (have ZA0 : Hid (w1.heap[W0.heap.size]? = some (.cells #[.int .i64 0, .slice none 0 0] 24 (0, 0))) := (hb1.block W0.heap.size (by first | (simp; done) | (simp; omega))).trans (by first | exact heap_alloc_new W0 (.cells #[.int .i64 0, .slice none 0 0] 24) | exact (Below.heap_alloc (W0.alloc (.cells #[.int .i64 0, .slice none 0 0] 24)) _ _ (by simp)).trans (heap_alloc_new W0 (.cells #[.int .i64 0, .slice none 0 0] 24))))); (try (have ZA1 : Hid (w1.heap[W0.heap.size + 1]? = some (.cells #[.int .i64 0, .slice none 0 0] 24 (0, 0))) := (hb1.block (W0.heap.size + 1) (by first | (simp; done) | (simp; omega))).trans (by have h := heap_alloc_new (W0.alloc (.cells #[.int .i64 fa', .int .i64 (kn : Int)] 37)) (.cells #[.int .i64 0, .slice none 0 0] 24); rw [World.size_alloc] at h; exact h))); have HW01 := hid B1.out.size; clear hb1 ho1) | (go_at_call 15; refine (KI.out _ v1 _ (by first | exact O1.out | exact O1.out.keepAlloc _ | exact (O1.out.keepAlloc _).keepAlloc _) (by first | exact ZB0.out | exact ZB1.out | exact heap_alloc_new w1 (.cells #[.int .i64 fa', .int .i64 (kn : Int)] 37) | exact (Below.heap_alloc (w1.alloc (.cells #[.int .i64 fa', .int .i64 (kn : Int)] 37)) _ _ (by simp)).trans (heap_alloc_new w1 (.cells #[.int .i64 fa', .int .i64 (kn : Int)] 37)) | exact (Below.heap_alloc w1 _ _ (OneAt.lt ZB0.out)).trans ZB0.out | (have h := heap_alloc_new (w1.alloc (.cells #[.int .i64 0, .slice none 0 0] 24)) (.cells #[.int .i64 fa', .int .i64 (kn : Int)] 37); rw [World.size_alloc] at h; exact h)) (fun e => by have h := L1.out _ e; first | omega | (simp at h; done) | (simp at h; omega)) (by have := HW01.out; first | omega | (simp; omega))).mono ?_; rintro r w5 ⟨v5, rfl, ho5, hg5⟩; rw [← HE.out] at ho5; obtain ⟨a5, c5, rfl, hp5, -⟩ := ho5.at_; have B5 : Hid (Below W0.heap.size W0 w5) := Below.trans (by first | exact B1.out | exact B1.out.alloc HW01.out _ | exact (B1.out.alloc HW01.out _).alloc (by have := HW01.out; simp; omega) _) (hg5.below (by have := HW01.out; first | omega | (simp; omega)) (fun q hq => (O1.out.lt q hq).1)); have ML : Hid (Fin W0 (w5.alloc (.cells #[.int .i64 (n : Int), .slice a5 P1.length c5] 24)) (n : Int) w5.heap.size a5 c5 P1) := Fin.late B5.out hp5; (try (have hE0 := early_of (ab := W0.heap.size) (by first | exact ZA0.out | exact (Below.heap_alloc w1 _ _ (lt_of_heap ZA0.out)).trans ZA0.out) hg5 (fun e => by have h := L1.out _ e; first | omega | (simp at h; done) | (simp at h; omega)); have ME0 : Hid (Fin W0 ((w5.setCell ⟨W0.heap.size, 0, none⟩ (.int .i64 (n : Int))).setCell ⟨W0.heap.size, 1, none⟩ (.slice a5 P1.length c5)) (n : Int) (W0.heap.size) a5 c5 P1) := Fin.early B5.out ho5 hE0.1 (Nat.le_refl _) hE0.2; have z0a := (cells_of hE0.1).1; have z0b := (cells_of hE0.1).2.1; have z0c := (cells_of hE0.1).2.2.1; have z0d := (cells_of hE0.1).2.2.2; clear hE0)); (try (have hE1 := early_of (ab := W0.heap.size + 1) ZA1.out hg5 (fun e => by have h := L1.out _ e; first | omega | (simp at h; done) | (simp at h; omega)); have ME1 : Hid (Fin W0 ((w5.setCell ⟨W0.heap.size + 1, 0, none⟩ (.int .i64 (n : Int))).setCell ⟨W0.heap.size + 1, 1, none⟩ (.slice a5 P1.length c5)) (n : Int) (W0.heap.size + 1) a5 c5 P1) := Fin.early B5.out ho5 hE1.1 (Nat.le_succ _) hE1.2; have z1a := (cells_of hE1.1).1; have z1b := (cells_of hE1.1).2.1; have z1c := (cells_of hE1.1).2.2.1; have z1d := (cells_of hE1.1).2.2.2; clear hE1)); (try (have hE2 := early_of (ab := w1.heap.size) (by first | exact heap_alloc_new w1 (.cells #[.int .i64 0, .slice none 0 0] 24) | exact (Below.heap_alloc (w1.alloc (.cells #[.int .i64 0, .slice none 0 0] 24)) _ _ (by simp)).trans (heap_alloc_new w1 (.cells #[.int .i64 0, .slice none 0 0] 24))) hg5 (fun e => by have h := L1.out _ e; first | omega | (simp at h; done) | (simp at h; omega)); have ME2 : Hid (Fin W0 ((w5.setCell ⟨w1.heap.size, 0, none⟩ (.int .i64 (n : Int))).setCell ⟨w1.heap.size, 1, none⟩ (.slice a5 P1.length c5)) (n : Int) (w1.heap.size) a5 c5 P1) := Fin.early B5.out ho5 hE2.1 HW01.out hE2.2; have z2a := (cells_of hE2.1).1; have z2b := (cells_of hE2.1).2.1; have z2c := (cells_of hE2.1).2.2.1; have z2d := (cells_of hE2.1).2.2.2; clear hE2)); (try (have hE3 := early_of (ab := w1.heap.size + 1) (by have h := heap_alloc_new (w1.alloc (.cells #[.int .i64 fa', .int .i64 (kn : Int)] 37)) (.cells #[.int .i64 0, .slice none 0 0] 24); rw [World.size_alloc] at h; exact h) hg5 (fun e => by have h := L1.out _ e; first | omega | (simp at h; done) | (simp at h; omega)); have ME3 : Hid (Fin W0 ((w5.setCell ⟨w1.heap.size + 1, 0, none⟩ (.int .i64 (n : Int))).setCell ⟨w1.heap.size + 1, 1, none⟩ (.slice a5 P1.length c5)) (n : Int) (w1.heap.size + 1) a5 c5 P1) := Fin.early B5.out ho5 hE3.1 (Nat.le_succ_of_le HW01.out) hE3.2; have z3a := (cells_of hE3.1).1; have z3b := (cells_of hE3.1).2.1; have z3c := (cells_of hE3.1).2.2.1; have z3d := (cells_of hE3.1).2.2.2; clear hE3)); clear ho5 hg5 hp5)))
                        all_goals first
                          | (obtain ⟨W9, hW9⟩ : ∃ W9, W9 = w5.alloc (.cells #[.int .i64 (n : Int), .slice a5 P1.length c5] 24) := ⟨_, rfl⟩; rw [← hW9]; have M0 := ML.out; rw [← hW9] at M0; have M := hid M0; obtain ⟨ab, hab⟩ : ∃ ab, ab = w5.heap.size := ⟨_, rfl⟩; rw [← hab]; rw [← hab] at M; clear hW9 hab M0)
                          | (obtain ⟨W9, hW9⟩ : ∃ W9, W9 = (w5.setCell ⟨W0.heap.size, 0, none⟩ (.int .i64 (n : Int))).setCell ⟨W0.heap.size, 1, none⟩ (.slice a5 P1.length c5) := ⟨_, rfl⟩; rw [← hW9]; have M0 := ME0.out; rw [← hW9] at M0; have M := hid M0; obtain ⟨ab, hab⟩ : ∃ ab, ab = W0.heap.size := ⟨_, rfl⟩; rw [← hab]; rw [← hab] at M; clear hW9 hab M0)
                          | (obtain ⟨W9, hW9⟩ : ∃ W9, W9 = (w5.setCell ⟨W0.heap.size + 1, 0, none⟩ (.int .i64 (n : Int))).setCell ⟨W0.heap.size + 1, 1, none⟩ (.slice a5 P1.length c5) := ⟨_, rfl⟩; rw [← hW9]; have M0 := ME1.out; rw [← hW9] at M0; have M := hid M0; obtain ⟨ab, hab⟩ : ∃ ab, ab = W0.heap.size + 1 := ⟨_, rfl⟩; rw [← hab]; rw [← hab] at M; clear hW9 hab M0)
                          | (obtain ⟨W9, hW9⟩ : ∃ W9, W9 = (w5.setCell ⟨w1.heap.size, 0, none⟩ (.int .i64 (n : Int))).setCell ⟨w1.heap.size, 1, none⟩ (.slice a5 P1.length c5) := ⟨_, rfl⟩; rw [← hW9]; have M0 := ME2.out; rw [← hW9] at M0; have M := hid M0; obtain ⟨ab, hab⟩ : ∃ ab, ab = w1.heap.size := ⟨_, rfl⟩; rw [← hab]; rw [← hab] at M; clear hW9 hab M0)
                          | (obtain ⟨W9, hW9⟩ : ∃ W9, W9 = (w5.setCell ⟨w1.heap.size + 1, 0, none⟩ (.int .i64 (n : Int))).setCell ⟨w1.heap.size + 1, 1, none⟩ (.slice a5 P1.length c5) := ⟨_, rfl⟩; rw [← hW9]; have M0 := ME3.out; rw [← hW9] at M0; have M := hid M0; obtain ⟨ab, hab⟩ : ∃ ab, ab = w1.heap.size + 1 := ⟨_, rfl⟩; rw [← hab]; rw [← hab] at M; clear hW9 hab M0)
                        all_goals (have S40 := hid (S30.out.keep M.out.below); have x0 := S40.out.x0; have x1 := S40.out.x1; have i0 := M.out.i0; have i1 := M.out.i1; have y40 := (SB.out _ M.out.below).2.2; have KS := hid (same_true W9 (n : Int) (n : Int) xa a5 xc c5 P1 P1 rfl rfl S40.out.px M.out.pg (Nat.le_trans HP40.out (by decide))))
                        all_goals (try clear ML)
                        all_goals (try clear ME0 z0a z0b z0c z0d)
                        all_goals (try clear ME1 z1a z1b z1c z1d)
                        all_goals (try clear ME2 z2a z2b z2c z2d)
                        all_goals (try clear ME3 z3a z3b z3c z3d)
                        all_goals (try clear ZB0)
                        all_goals (try clear ZB1)
                        all_goals (try clear ZA0)
                        all_goals (try clear ZA1)
                        all_goals (clear M SB B5 B1 O1 L1 HW01 KC KI HPx c30 c31 y30 S30)
                        all_goals (go_wp2_with fail)
                        all_goals (refine KS.out.mono ?_)
                        all_goals (rintro r w41 ⟨rfl, hb⟩)
                        all_goals (have y41 := keep1 hb y40; have B41 := hid (below_tr S40.out.old hb); clear hb KS S40 x0 x1 i0 i1 y40)
                        all_goals (go_wp2_with fail)
                        all_goals go_ret
                        all_goals exact ⟨rfl, B41.out⟩
                    · obtain rfl : t = X.length := Nat.le_antisymm htl (Nat.le_of_not_lt hlt)
                      have j3 : decide ((X.length : Int) < (X.length : Int)) = false := by simp
                      have HE : Hid (P1 = X.take X.length ++ ⟨fa', (kn : Int)⟩ :: X.drop X.length) := by
                        show _ = _
                        rw [HP1.out]
                        unfold Bd.ins
                        simp only
                        rw [Bd.idx_of htl hM.out (fun y hy => by simp at hy)]
                      clear hM hlt htl S21 HP1
                      go_wp2_with fail
                      go_quiet (fail)
                      go_wp2_with fail
                      have HWb : Hid (Below W2.heap.size W2 (wr.drewN nq)) := below_drewN hT.out _
                      have HPx : Hid (PgAt (wr.drewN nq) a X) := (S20.out.keep HWb.out).pa
                      have S30 := hid (S20.out.keep HWb.out)
                      have y30 := keep1 HWb.out Y20.out
                      have c30 := S30.out.c0
                      have c31 := S30.out.c1
                      clear hT HWb
                      generalize wr.drewN nq = W0 at *
                      have SB : Hid (∀ W, Below W0.heap.size W0 W → W.cell? ⟨w.heap.size, 0, none⟩ = some (.int .i64 (n : Int)) ∧ W.cell? ⟨w.heap.size, 1, none⟩ = some (.slice (a) X.length c) ∧ W.cell? ⟨b20, 0, none⟩ = some (.int .i64 fa')) := fun W hW => ⟨keep1 hW c30, keep1 hW c31, keep1 hW y30⟩
                      have KC := hid fun W (hW : PgAt W a X) => clone_any W a c X hW (Nat.le_trans (Nat.mul_le_mul_right 16 HXl.out) (by decide))
                      have KI := hid fun W v vb hO hv hne hB => insert_any W W0.heap.size v X.length vb X ⟨fa', (kn : Int)⟩ hO hv hne (Nat.le_trans HXl.out (by decide)) (Nat.le_refl _) hB
                      go_region_held3 (fun W => W.cell? ⟨w.heap.size, 0, none⟩ = some (.int .i64 (n : Int)) ∧ W.cell? ⟨w.heap.size, 1, none⟩ = some (.slice (a) X.length c) ∧ W.cell? ⟨b20, 0, none⟩ = some (.int .i64 fa'))
                        ((refine SB.out _ ?_; first | exact ME0.out.below | exact ME1.out.below | exact ME2.out.below | exact ME3.out.below | exact ML.out.below | exact B5.out | exact B1.out | (refine Below.alloc B5.out B5.out.size _) | (refine Below.alloc B1.out HW01.out _) | (refine Below.alloc (Below.alloc B1.out HW01.out _) (by have := HW01.out; simp; omega) _) | repeat (first | exact Below.refl _ _ | refine Below.drew ?_ | (refine Below.alloc ?_ (by simp) _))))
                        ((first | (go_at_call 16; refine (KC.out _ (PgAt.below HPx.out (by repeat (first | exact Below.refl _ _ | refine Below.drew ?_ | (refine Below.alloc ?_ (by simp) _))))).mono ?_; rintro r w1 ⟨v1, rfl, ho1, hb1⟩; have L1 := hid fun q hq => ho1.lt q hq; have O1 : Hid (OwnPg w1 W0.heap.size v1 X) := ho1.lower (by first | exact Nat.le_refl _ | (simp; done) | (simp; omega)); have B1 : Hid (Below W0.heap.size W0 w1) := Below.trans (by repeat (first | exact Below.refl _ _ | refine Below.drew ?_ | (refine Below.alloc ?_ (by simp) _))) (hb1.mono (by first | exact Nat.le_refl _ | (simp; done) | (simp; omega))); (try (have ZB0 : Hid (OneAt w1 W0.heap.size ⟨fa', (kn : Int)⟩) := (hb1.block W0.heap.size (by first | (simp; done) | (simp; omega))).trans (by first | exact heap_alloc_new W0 (.cells #[.int .i64 fa', .int .i64 (kn : Int)] 37) | exact (Below.heap_alloc (W0.alloc (.cells #[.int .i64 fa', .int .i64 (kn : Int)] 37)) _ _ (by simp)).trans (heap_alloc_new W0 (.cells #[.int .i64 fa', .int .i64 (kn : Int)] 37))))); (try (have ZB1 : Hid (OneAt w1 (W0.heap.size + 1) ⟨fa', (kn : Int)⟩) := (hb1.block (W0.heap.size + 1) (by first | (simp; done) | (simp; omega))).trans (by have h := heap_alloc_new (W0.alloc (.cells #[.int .i64 0, .slice none 0 0] 24)) (.cells #[.int .i64 fa', .int .i64 (kn : Int)] 37); rw [World.size_alloc] at h; exact h))); (try (have ZA0 : Hid (w1.heap[W0.heap.size]? = some (.cells #[.int .i64 0, .slice none 0 0] 24 (0, 0))) := (hb1.block W0.heap.size (by first | (simp; done) | (simp; omega))).trans (by first | exact heap_alloc_new W0 (.cells #[.int .i64 0, .slice none 0 0] 24) | exact (Below.heap_alloc (W0.alloc (.cells #[.int .i64 0, .slice none 0 0] 24)) _ _ (by simp)).trans (heap_alloc_new W0 (.cells #[.int .i64 0, .slice none 0 0] 24))))); (try (have ZA1 : Hid (w1.heap[W0.heap.size + 1]? = some (.cells #[.int .i64 0, .slice none 0 0] 24 (0, 0))) := (hb1.block (W0.heap.size + 1) (by first | (simp; done) | (simp; omega))).trans (by have h := heap_alloc_new (W0.alloc (.cells #[.int .i64 fa', .int .i64 (kn : Int)] 37)) (.cells #[.int .i64 0, .slice none 0 0] 24); rw [World.size_alloc] at h; exact h))); have HW01 := hid B1.out.size; clear hb1 ho1) | (go_at_call 15; refine (KI.out _ v1 _ (by first | exact O1.out | exact O1.out.keepAlloc _ | exact (O1.out.keepAlloc _).keepAlloc _) (by first | exact ZB0.out | exact ZB1.out | exact heap_alloc_new w1 (.cells #[.int .i64 fa', .int .i64 (kn : Int)] 37) | exact (Below.heap_alloc (w1.alloc (.cells #[.int .i64 fa', .int .i64 (kn : Int)] 37)) _ _ (by simp)).trans (heap_alloc_new w1 (.cells #[.int .i64 fa', .int .i64 (kn : Int)] 37)) | exact (Below.heap_alloc w1 _ _ (OneAt.lt ZB0.out)).trans ZB0.out | (have h := heap_alloc_new (w1.alloc (.cells #[.int .i64 0, .slice none 0 0] 24)) (.cells #[.int .i64 fa', .int .i64 (kn : Int)] 37); rw [World.size_alloc] at h; exact h)) (fun e => by have h := L1.out _ e; first | omega | (simp at h; done) | (simp at h; omega)) (by have := HW01.out; first | omega | (simp; omega))).mono ?_; rintro r w5 ⟨v5, rfl, ho5, hg5⟩; rw [← HE.out] at ho5; obtain ⟨a5, c5, rfl, hp5, -⟩ := ho5.at_; have B5 : Hid (Below W0.heap.size W0 w5) := Below.trans (by first | exact B1.out | exact B1.out.alloc HW01.out _ | exact (B1.out.alloc HW01.out _).alloc (by have := HW01.out; simp; omega) _) (hg5.below (by have := HW01.out; first | omega | (simp; omega)) (fun q hq => (O1.out.lt q hq).1)); have ML : Hid (Fin W0 (w5.alloc (.cells #[.int .i64 (n : Int), .slice a5 P1.length c5] 24)) (n : Int) w5.heap.size a5 c5 P1) := Fin.late B5.out hp5; (try (have hE0 := early_of (ab := W0.heap.size) (by first | exact ZA0.out | exact (Below.heap_alloc w1 _ _ (lt_of_heap ZA0.out)).trans ZA0.out) hg5 (fun e => by have h := L1.out _ e; first | omega | (simp at h; done) | (simp at h; omega)); have ME0 : Hid (Fin W0 ((w5.setCell ⟨W0.heap.size, 0, none⟩ (.int .i64 (n : Int))).setCell ⟨W0.heap.size, 1, none⟩ (.slice a5 P1.length c5)) (n : Int) (W0.heap.size) a5 c5 P1) := Fin.early B5.out ho5 hE0.1 (Nat.le_refl _) hE0.2; have z0a := (cells_of hE0.1).1; have z0b := (cells_of hE0.1).2.1; have z0c := (cells_of hE0.1).2.2.1; have z0d := (cells_of hE0.1).2.2.2; clear hE0)); (try (have hE1 := early_of (ab := W0.heap.size + 1) ZA1.out hg5 (fun e => by have h := L1.out _ e; first | omega | (simp at h; done) | (simp at h; omega)); have ME1 : Hid (Fin W0 ((w5.setCell ⟨W0.heap.size + 1, 0, none⟩ (.int .i64 (n : Int))).setCell ⟨W0.heap.size + 1, 1, none⟩ (.slice a5 P1.length c5)) (n : Int) (W0.heap.size + 1) a5 c5 P1) := Fin.early B5.out ho5 hE1.1 (Nat.le_succ _) hE1.2; have z1a := (cells_of hE1.1).1; have z1b := (cells_of hE1.1).2.1; have z1c := (cells_of hE1.1).2.2.1; have z1d := (cells_of hE1.1).2.2.2; clear hE1)); (try (have hE2 := early_of (ab := w1.heap.size) (by first | exact heap_alloc_new w1 (.cells #[.int .i64 0, .slice none 0 0] 24) | exact (Below.heap_alloc (w1.alloc (.cells #[.int .i64 0, .slice none 0 0] 24)) _ _ (by simp)).trans (heap_alloc_new w1 (.cells #[.int .i64 0, .slice none 0 0] 24))) hg5 (fun e => by have h := L1.out _ e; first | omega | (simp at h; done) | (simp at h; omega)); have ME2 : Hid (Fin W0 ((w5.setCell ⟨w1.heap.size, 0, none⟩ (.int .i64 (n : Int))).setCell ⟨w1.heap.size, 1, none⟩ (.slice a5 P1.length c5)) (n : Int) (w1.heap.size) a5 c5 P1) := Fin.early B5.out ho5 hE2.1 HW01.out hE2.2; have z2a := (cells_of hE2.1).1; have z2b := (cells_of hE2.1).2.1; have z2c := (cells_of hE2.1).2.2.1; have z2d := (cells_of hE2.1).2.2.2; clear hE2)); (try (have hE3 := early_of (ab := w1.heap.size + 1) (by have h := heap_alloc_new (w1.alloc (.cells #[.int .i64 fa', .int .i64 (kn : Int)] 37)) (.cells #[.int .i64 0, .slice none 0 0] 24); rw [World.size_alloc] at h; exact h) hg5 (fun e => by have h := L1.out _ e; first | omega | (simp at h; done) | (simp at h; omega)); have ME3 : Hid (Fin W0 ((w5.setCell ⟨w1.heap.size + 1, 0, none⟩ (.int .i64 (n : Int))).setCell ⟨w1.heap.size + 1, 1, none⟩ (.slice a5 P1.length c5)) (n : Int) (w1.heap.size + 1) a5 c5 P1) := Fin.early B5.out ho5 hE3.1 (Nat.le_succ_of_le HW01.out) hE3.2; have z3a := (cells_of hE3.1).1; have z3b := (cells_of hE3.1).2.1; have z3c := (cells_of hE3.1).2.2.1; have z3d := (cells_of hE3.1).2.2.2; clear hE3)); clear ho5 hg5 hp5)))
                      all_goals first
                        | (obtain ⟨W9, hW9⟩ : ∃ W9, W9 = w5.alloc (.cells #[.int .i64 (n : Int), .slice a5 P1.length c5] 24) := ⟨_, rfl⟩; rw [← hW9]; have M0 := ML.out; rw [← hW9] at M0; have M := hid M0; obtain ⟨ab, hab⟩ : ∃ ab, ab = w5.heap.size := ⟨_, rfl⟩; rw [← hab]; rw [← hab] at M; clear hW9 hab M0)
                        | (obtain ⟨W9, hW9⟩ : ∃ W9, W9 = (w5.setCell ⟨W0.heap.size, 0, none⟩ (.int .i64 (n : Int))).setCell ⟨W0.heap.size, 1, none⟩ (.slice a5 P1.length c5) := ⟨_, rfl⟩; rw [← hW9]; have M0 := ME0.out; rw [← hW9] at M0; have M := hid M0; obtain ⟨ab, hab⟩ : ∃ ab, ab = W0.heap.size := ⟨_, rfl⟩; rw [← hab]; rw [← hab] at M; clear hW9 hab M0)
                        | (obtain ⟨W9, hW9⟩ : ∃ W9, W9 = (w5.setCell ⟨W0.heap.size + 1, 0, none⟩ (.int .i64 (n : Int))).setCell ⟨W0.heap.size + 1, 1, none⟩ (.slice a5 P1.length c5) := ⟨_, rfl⟩; rw [← hW9]; have M0 := ME1.out; rw [← hW9] at M0; have M := hid M0; obtain ⟨ab, hab⟩ : ∃ ab, ab = W0.heap.size + 1 := ⟨_, rfl⟩; rw [← hab]; rw [← hab] at M; clear hW9 hab M0)
                        | (obtain ⟨W9, hW9⟩ : ∃ W9, W9 = (w5.setCell ⟨w1.heap.size, 0, none⟩ (.int .i64 (n : Int))).setCell ⟨w1.heap.size, 1, none⟩ (.slice a5 P1.length c5) := ⟨_, rfl⟩; rw [← hW9]; have M0 := ME2.out; rw [← hW9] at M0; have M := hid M0; obtain ⟨ab, hab⟩ : ∃ ab, ab = w1.heap.size := ⟨_, rfl⟩; rw [← hab]; rw [← hab] at M; clear hW9 hab M0)
                        | (obtain ⟨W9, hW9⟩ : ∃ W9, W9 = (w5.setCell ⟨w1.heap.size + 1, 0, none⟩ (.int .i64 (n : Int))).setCell ⟨w1.heap.size + 1, 1, none⟩ (.slice a5 P1.length c5) := ⟨_, rfl⟩; rw [← hW9]; have M0 := ME3.out; rw [← hW9] at M0; have M := hid M0; obtain ⟨ab, hab⟩ : ∃ ab, ab = w1.heap.size + 1 := ⟨_, rfl⟩; rw [← hab]; rw [← hab] at M; clear hW9 hab M0)
                      all_goals (have S40 := hid (S30.out.keep M.out.below); have x0 := S40.out.x0; have x1 := S40.out.x1; have i0 := M.out.i0; have i1 := M.out.i1; have y40 := (SB.out _ M.out.below).2.2; have KS := hid (same_true W9 (n : Int) (n : Int) xa a5 xc c5 P1 P1 rfl rfl S40.out.px M.out.pg (Nat.le_trans HP40.out (by decide))))
                      all_goals (try clear ML)
                      all_goals (try clear ME0 z0a z0b z0c z0d)
                      all_goals (try clear ME1 z1a z1b z1c z1d)
                      all_goals (try clear ME2 z2a z2b z2c z2d)
                      all_goals (try clear ME3 z3a z3b z3c z3d)
                      all_goals (try clear ZB0)
                      all_goals (try clear ZB1)
                      all_goals (try clear ZA0)
                      all_goals (try clear ZA1)
                      all_goals (clear M SB B5 B1 O1 L1 HW01 KC KI HPx c30 c31 y30 S30)
                      all_goals (go_wp2_with fail)
                      all_goals (refine KS.out.mono ?_)
                      all_goals (rintro r w41 ⟨rfl, hb⟩)
                      all_goals (have y41 := keep1 hb y40; have B41 := hid (below_tr S40.out.old hb); clear hb KS S40 x0 x1 i0 i1 y40)
                      all_goals (go_wp2_with fail)
                      all_goals go_ret
                      all_goals exact ⟨rfl, B41.out⟩
                · have j1 : (fo == (s : Int)) = false := by simpa using hos
                  have NN : Hid (∀ t y, t < j + 1 → F[t]? = some y → y.o ≠ (s : Int)) := fun t y ht hty => by
                    by_cases e : t = j
                    · subst e
                      rw [HY.out] at hty
                      cases hty; exact hos
                    · exact hN.out t y (Nat.lt_of_le_of_ne (Nat.le_of_lt_succ ht) e) hty
                  have NC := hid (below_tr hC.out (bx _ (.cells #[.int .i64 fa', .int .i64 fo] 37)))
                  clear hN hC hlt hjl hy hos HY BC
                  go_wp2_with fail
                  go_roundw
                  case rel => exact ⟨j + 1, HLT.out, by go_num, NN, NC⟩
                  case measure => exact inner_meas HLT.out
              · obtain rfl : j = F.length := Nat.le_antisymm hjl (Nat.le_of_not_lt hlt)
                have j3 : decide ((F.length : Int) < (F.length : Int)) = false := by simp
                have NA : Hid (∀ y ∈ F, (kn : Int) ≤ y.o → ((s + 1 : Nat) : Int) ≤ y.o) := fun y hy hk' => by
                  have h1 := hA.out y hy hk'
                  obtain ⟨t, ht⟩ := List.getElem?_of_mem hy
                  have h2 := hN.out t y (List.getElem?_eq_some_iff.1 ht).1 ht
                  exact says_up h1 h2
                have NB := hid (below_tr hB.out hC.out)
                clear hN hC hlt hjl
                go_wp2_with fail
                go_roundw
                case rel => exact ⟨s + 1, Nat.le_succ_of_le HKS.out, Nat.succ_le_succ HS.out, by go_num, NA, NB⟩
                case measure => exact inner_meas (Nat.lt_succ_of_le HS.out)
          · have hno := says_no hs
            have hPe := HPE.out.trans (Bd.takeA_full HCK.out.symm HKO.out (fun y hy => by
              rw [Int.toNat_natCast, ← HFE.out] at hy
              exact says_full (HFm.out y hy) hs (hA.out y hy)))
            injection hPe with p0 hPe
            injection hPe with p1 hPe
            injection hPe with p2 p3
            subst p0; subst p1; subst p2; subst p3
            have S10 := hid (S9.out.keep hB.out)
            have KX := hid (same_true wr 0 0 xa none xc 0 [] [] rfl rfl S10.out.px (PgAt.nil _ _) (Nat.zero_le _))
            have x0 := S10.out.x0
            have x1 := S10.out.x1
            have n0 := S10.out.n0
            have n1 := S10.out.n1
            simp only [List.length_nil] at x1 KX
            clear HPE G9 hA hB hs hks hsn
            go_wp2_with fail
            refine KX.out.mono ?_
            rintro r w10 ⟨rfl, hb⟩
            have B10 := hid (below_tr S10.out.old hb)
            clear hb KX x0 x1 n0 n1
            go_wp2_with fail
            go_ret
            exact ⟨rfl, B10.out⟩
  · have hne : ((CK : Int) != 0) = true := by simp; omega
    have hbad : Bd.check N X ≠ 0 := by rw [← HCK.out]; exact hck0
    have hPe := HP.out.trans (Bd.takeA_bad hbad)
    rw [← HCK.out] at hPe
    injection hPe with p0 hPe
    injection hPe with p1 hPe
    injection hPe with p2 p3
    have hDe : (D0, D1, D2) = ((0 : Int), ([] : List Bd.Bk), CK) := HD.out.trans (by unfold Bd.dropA; rw [if_pos hbad, HCK.out])
    injection hDe with d0 hDe
    injection hDe with d1 d2
    have hFe : F = [] := HF.out.trans (by unfold Bd.freeA; rw [if_neg hbad])
    subst p0; subst p1; subst p2; subst d0; subst d1; subst hFe
    subst p3; subst d2
    have KX := hid fun W (hS : St w W N a c X z xb 0 xa xc [] yb 0 ya yc [] nb) => same_true W 0 0 xa none xc 0 [] [] rfl rfl hS.px (PgAt.nil _ _) (Nat.zero_le _)
    have KY := hid fun W (hS : St w W N a c X z xb 0 xa xc [] yb 0 ya yc [] nb) => same_true W 0 0 ya none yc 0 [] [] rfl rfl hS.py (PgAt.nil _ _) (Nat.zero_le _)
    have x0 := S5.out.x0
    have x1 := S5.out.x1
    have n0 := S5.out.n0
    have n1 := S5.out.n1
    clear hck0 hbad HP HD HF HCK H
    simp only [List.length_nil] at x1 KX KY
    go_wp2_with fail
    refine (KX.out _ S5.out).mono ?_
    rintro r w6 ⟨rfl, hb⟩
    have S6 := hid (S5.out.keep hb)
    have y0 := S6.out.y0
    have y1 := S6.out.y1
    replace n0 := keep1 hb n0
    replace n1 := keep1 hb n1
    clear hb KX S5 x0 x1
    simp only [List.length_nil] at y1
    go_wp2_with fail
    refine (KY.out _ S6.out).mono ?_
    rintro r w7 ⟨rfl, hb⟩
    have B7 := hid (below_tr S6.out.old hb)
    clear hb KY S6 y0 y1 n0 n1
    go_wp2_with fail
    go_ret
    exact ⟨rfl, B7.out⟩

end Go.Proofs.Ytodimkkgmidgcab.PBuddy
