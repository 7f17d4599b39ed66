/- quirkeep.BuddyWhole, walked: it answers true, and nothing that was there has turned. Conditions: how many blocks there are. -/
import Derived.Test.YtodimkkgmidgcahBuddyEq
import Derived.Test.YtodimkkgmidgcahBuddyOnes
import Derived.Test.YtodimkkgmidgcahBuddyHelp
namespace Go.Proofs.Ytodimkkgmidgcah.PBuddy
open Go Go.RowKit PPool
set_option maxRecDepth 100000

theorem free_two : Bd.freeA 2 [⟨1, 0⟩] = [⟨0, 0⟩, ⟨2, 1⟩] ∧ Bd.check 2 [⟨1, 0⟩] = 0 := by decide
theorem pg_one1 (W : World) (x : Bd.Bk) : PgAt (W.alloc (.cells #[.int .i64 x.a, .int .i64 x.o] 29)) (some ⟨W.heap.size, 0, none⟩) [x] := fun j y hj => by
  match j, hj with
  | 0, hj =>
    cases hj
    exact ⟨W.heap.size, 0, rfl, (now2 W _ _ _).1, (now2 W _ _ _).2⟩
theorem pg_two (W : World) (x y : Bd.Bk) : PgAt (W.alloc (.cells #[.int .i64 x.a, .int .i64 x.o, .int .i64 y.a, .int .i64 y.o] 29)) (some ⟨W.heap.size, 0, none⟩) [x, y] := by
  refine fun j z hj => ⟨W.heap.size, 0, rfl, ?_, ?_⟩
  · rw [cell_of_row _ _ _ _ _ _ (heap_alloc_new W _)]
    match j, hj with
    | 0, hj => cases hj; rfl
    | 1, hj => cases hj; rfl
  · rw [cell_of_row _ _ _ _ _ _ (heap_alloc_new W _)]
    match j, hj with
    | 0, hj => cases hj; rfl
    | 1, hj => cases hj; rfl
theorem own_nil {w : World} {base : Nat} {a : Option Addr} {n c : Nat} {X : List Bd.Bk} (h : OwnPg w base (.slice a n c) X) : a = none → c = 0 := fun e => by
  subst e
  rcases h.2 with ⟨e, _⟩ | ⟨g, cap, cur, hv, _⟩
  · injection e
  · injection hv with e1 _ _; cases e1
/-- What is kept where one block turns. -/
theorem PgAt.goes {g : Nat} {w w' : World} {a : Option Addr} {X : List Bd.Bk} (h : PgAt w a X) (hg : Goes (fun b => b = g) w w' (fun b => b = g)) (ha : ∀ q, a = some q → q.block ≠ g) : PgAt w' a X := fun j x hj => by
  obtain ⟨b, o, e, h1, h2⟩ := h j x hj
  have hb := hg.block b (World.block_lt_of_cell? w _ h1) (ha _ e)
  exact ⟨b, o, e, (World.cell?_of_block (a := ⟨b, o + j * 2, none⟩) hb).trans h1, (World.cell?_of_block (a := ⟨b, o + j * 2 + 1, none⟩) hb).trans h2⟩
theorem cell_goes {g : Nat} {w w' : World} {q : Addr} {v : Value} (h : w.cell? q = some v) (hg : Goes (fun b => b = g) w w' (fun b => b = g)) (ha : q.block ≠ g) : w'.cell? q = some v :=
  (World.cell?_of_block (a := q) (hg.block q.block (World.block_lt_of_cell? w _ h) ha)).trans h

theorem whole_num {xa xo p q n k l : Nat} (g1 : xo ≤ n) (g2 : xa % p = 0) (g3 : xa + p ≤ q) (p2 : 0 < p) (q3 : q ≤ 1024) (hlt : k < l) :
    decide ((xa : Int) < 0) = false ∧ decide ((xo : Int) < 0) = false ∧ decide ((n : Int) < (xo : Int)) = false ∧ decide (n < xo) = false ∧ decide ((q : Int) < (xa : Int) + (p : Int)) = false ∧ IntKind.i64.wrap ((xa : Int) + (p : Int)) = (xa : Int) + (p : Int) ∧ ¬ (p : Int) = 0 ∧ (xa : Int).tmod (p : Int) = 0 ∧ (xa : Int) ≤ 1024 ∧ (0 : Int) ≤ (k : Int) ∧ (k : Int) < (l : Int) := by
  refine ⟨by simp, by simp, by simp; omega, by simp; omega, by simp; omega, IntWalk.i64_in _ ⟨by omega, by omega⟩, by omega, ?_, by omega, by omega, by omega⟩
  rw [Int.tmod_eq_emod_of_nonneg (by omega), ← Int.natCast_emod, g2]; rfl

theorem inner_lt {xa p q m : Nat} (g3 : xa + p ≤ q) (hm : m < p) : xa + m < q := by omega
theorem inner_num {xa p q m v : Nat} (g3 : xa + p ≤ q) (q3 : q ≤ 1024) (hm : m < p) (hv : v ≤ 2048) :
    (0 : Int) ≤ (xa : Int) + (m : Int) ∧ (xa : Int) + (m : Int) < (q : Int) ∧ ((xa : Int) + (m : Int)).toNat = xa + m ∧ IntKind.i64.wrap ((xa : Int) + (m : Int)) = (xa : Int) + (m : Int) ∧ IntKind.i64.wrap ((v : Int) + 1) = (v : Int) + 1 ∧ (m : Int) < (p : Int) := by
  refine ⟨by omega, by omega, by omega, IntWalk.i64_in _ ⟨by omega, by omega⟩, IntWalk.i64_in _ ⟨by omega, by omega⟩, by omega⟩
theorem sorted_next {F : List Bd.Bk} {t : Nat} {x y : Bd.Bk} (h : F.Pairwise (fun x y => x.a < y.a)) (hx : F[t]? = some x) (hy : F[t + 1]? = some y) : x.a < y.a := by
  obtain ⟨h1, h2⟩ := List.getElem?_eq_some_iff.1 hx
  obtain ⟨h3, h4⟩ := List.getElem?_eq_some_iff.1 hy
  have := (List.pairwise_iff_getElem.1 h) t (t + 1) h1 h3 (Nat.lt_succ_self t)
  rw [h2, h4] at this
  exact this
theorem last_num {t l : Nat} (hm : t + 1 < l) (hl : l ≤ 1024) : (0 : Int) ≤ (t : Int) ∧ (t : Int) < (l : Int) ∧ (0 : Int) ≤ (t : Int) + 1 ∧ (t : Int) + 1 < (l : Int) ∧ (t : Int) ≤ 1024 ∧ IntKind.i64.wrap ((t : Int) + 1 - 1) = (t : Int) ∧ IntKind.i64.wrap (((t + 1 : Nat) : Int) - 1) = (t : Int) ∧ IntKind.i64.wrap (t : Int) = (t : Int) := ⟨by omega, by omega, by omega, by omega, by omega, by rw [IntWalk.i64_in _ ⟨by omega, by omega⟩]; omega, by rw [IntWalk.i64_in _ ⟨by omega, by omega⟩]; omega, IntWalk.i64_in _ ⟨by omega, by omega⟩⟩
theorem last_done {m l : Nat} (hm : ¬ m < l) : ¬ (m : Int) < (l : Int) := by omega
theorem xor_num {xa ya xo yo p q : Nat} (h1 : xa + 2 ^ xo ≤ q) (h2 : ya + 2 ^ yo ≤ q) (hq : q ≤ 1024) : bits .xor .i64 (xa : Int) (ya : Int) = ((xa ^^^ ya : Nat) : Int) ∧ (xa ^^^ ya ≠ p → (((xa ^^^ ya : Nat) : Int) == (p : Int)) = false) := by
  have := Bd.pow_pos' xo
  have := Bd.pow_pos' yo
  refine ⟨i64_xor xa ya (by omega) (by omega), fun h => ?_⟩
  rw [beq_eq_false_iff_ne]
  exact fun e => h (Int.ofNat.inj e)
theorem last_up {t l : Nat} (hm : t + 1 < l) (hl : l ≤ 1024) : t + 1 + 1 ≤ 1025 := by omega
theorem last_meas {t l : Nat} (hm : t + 1 < l) (hl : l ≤ 1024) : 1025 - (intOf (.int .i64 ((t : Int) + 1 + 1))).toNat < 1025 - (intOf (.int .i64 ((t : Int) + 1))).toNat := by simp [intOf]; omega
theorem inner_meas {m p : Nat} (h : m < p) : p - (intOf (.int .i64 ((m : Int) + 1))).toNat < p - (intOf (.int .i64 (m : Int))).toNat := by simp [intOf]; omega

set_option maxHeartbeats 8000000 in
theorem whole_walk (w : World) (N : Int) (a : Option Addr) (c : Nat) (X : List Bd.Bk) (h : PgAt w a X) (hl : X.length * 16 ≤ 140737488351232) (hc : a = none → c = 0) :
    Calls Try.prog 3 #[bud N a X.length c] w fun e w' => e = .returned (.bool true) ∧ Below w.heap.size w w' := by
  have K0 := hid fun W (hW : PgAt W (some ⟨w.heap.size + 1, 0, none⟩) [⟨1, 0⟩]) => free_any W 2 (some ⟨w.heap.size + 1, 0, none⟩) 1 [⟨1, 0⟩] hW (by simp)
  rw [free_two.1, free_two.2] at K0
  have KE := hid fun W a1 a2 c1 c2 (hW1 : PgAt W a1 [⟨0, 0⟩, ⟨2, 1⟩]) (hW2 : PgAt W a2 [⟨0, 0⟩, ⟨2, 1⟩]) => equal_any W a1 a2 c1 c2 [⟨0, 0⟩, ⟨2, 1⟩] [⟨0, 0⟩, ⟨2, 1⟩] hW1 hW2 (by simp) (by simp)
  rw [decide_eq_true rfl] at KE
  have KF := hid fun W (hW : PgAt W a X) => free_any W N a c X hW (by omega)
  have H := hid h
  have HC := hid hc
  unfold bud at *
  simp only [List.length_cons, List.length_nil, Nat.zero_add] at K0 KE
  clear h hc
  go_enter Try.func3, Try.ntmps3
  go_wp2_with fail
  obtain ⟨c0, c1⟩ := keep2 (bx _ (.cells #[.int .i64 1, .int .i64 0] 29)) (now2 w (.int .i64 N) (.slice a X.length c) 24)
  have P0 := pg_one1 (w.alloc (.cells #[.int .i64 N, .slice a X.length c] 24)) ⟨1, 0⟩
  rw [World.size_alloc] at P0
  have HP0 := hid P0
  have B0 := hid (below_tr (bx w (.cells #[.int .i64 N, .slice a X.length c] 24)) (bx _ (.cells #[.int .i64 1, .int .i64 0] 29)))
  have H0 := hid (H.out.below B0.out)
  clear P0
  simp only at HP0
  generalize (w.alloc (.cells #[.int .i64 N, .slice a X.length c] 24)).alloc (.cells #[.int .i64 1, .int .i64 0] 29) = w0 at *
  refine (K0.out _ HP0.out).mono ?_
  rintro r w1 ⟨v1, rfl, ho1, hb⟩
  obtain ⟨a1, k1, rfl, hp1, -⟩ := ho1.at_
  have P1 := hid (hp1.below (bx w1 (.cells #[.int .i64 0, .int .i64 0, .int .i64 2, .int .i64 1] 29)))
  have hb' := below_tr hb (bx w1 (.cells #[.int .i64 0, .int .i64 0, .int .i64 2, .int .i64 1] 29))
  have P2 := hid (pg_two w1 ⟨0, 0⟩ ⟨2, 1⟩)
  replace c0 := keep1 hb' c0
  replace c1 := keep1 hb' c1
  have B1 := hid (below_tr B0.out hb')
  have H1 := hid (H0.out.below hb')
  clear hb hb' K0 ho1 hp1 B0 H0 HP0
  simp only [List.length_cons, List.length_nil, Nat.zero_add] at P2 ⊢
  go_wp2_with fail
  generalize hrb : w1.heap.size = rb at *
  generalize w1.alloc (.cells #[.int .i64 0, .int .i64 0, .int .i64 2, .int .i64 1] 29) = w2 at *
  clear hrb
  refine (KE.out _ _ _ _ _ P1.out P2.out).mono ?_
  rintro r w3 ⟨rfl, hb⟩
  replace c0 := keep1 hb c0
  replace c1 := keep1 hb c1
  have B3 := hid (below_tr B1.out hb)
  have H3 := hid (H1.out.below hb)
  clear hb KE P1 P2 B1 H1
  go_wp2_with fail
  refine (KF.out _ H3.out).mono ?_
  rintro r w4 ⟨v4, rfl, ho4, hb⟩
  replace c0 := keep1 hb c0
  replace c1 := keep1 hb c1
  have B4 := hid (below_tr B3.out hb)
  have H4 := hid (H3.out.below hb)
  by_cases hck : Bd.check N X = 0
  · obtain ⟨n, rfl, hn, hk⟩ := Bd.check_ok hck
    have hF : Bd.freeA (n : Int) X = Bd.free n X := by unfold Bd.freeA; rw [if_pos hck, Int.toNat_natCast]
    rw [hF] at ho4
    rw [hck]
    obtain ⟨q, Q1, q2, q3, s1, s1'⟩ := shl1 hn
    obtain ⟨F, hFe⟩ : ∃ F, F = Bd.free n X := ⟨_, rfl⟩
    rw [← hFe] at ho4
    obtain ⟨a4, k4, rfl, hp4, -⟩ := ho4.at_
    have N4 := hid (own_nil ho4)
    have L4 : Hid (∀ q, a4 = some q → q.block < w4.heap.size) := fun q hq => by
      subst hq
      exact (ho4.lt q.block rfl).2
    have P4 := hid hp4
    have hXl := Bd.chk_len hk
    have hFl := Bd.free_len hn hk
    rw [← hFe] at hFl
    rw [← Q1.out] at hXl hFl
    -- what both are
    have HZ : Hid (∀ x ∈ X ++ F, ∃ xa xo : Nat, x = Bd.bk xa xo ∧ xo ≤ n ∧ xa % 2 ^ xo = 0 ∧ xa + 2 ^ xo ≤ q) := fun x hx => by
      rcases List.mem_append.1 hx with hx | hx
      · obtain ⟨xa, xo, e, g1, g2, g3, _⟩ := Bd.chk_mem hk x hx
        exact ⟨xa, xo, e, g1, g2, by rw [Q1.out]; exact g3⟩
      · rw [hFe] at hx
        obtain ⟨xa, xo, e, m⟩ := (Bd.free_mem hn hk).1 hx
        exact ⟨xa, xo, e, m.1.1, m.1.2.1, by rw [Q1.out]; exact m.1.2.2.1⟩
    have HFm : Hid (∀ x ∈ F, ∃ xa xo : Nat, x = Bd.bk xa xo ∧ xo ≤ n ∧ xa + 2 ^ xo ≤ q) := fun x hx => by
      obtain ⟨xa, xo, e, g1, _, g3⟩ := HZ.out x (List.mem_append.2 (.inr hx))
      exact ⟨xa, xo, e, g1, g3⟩
    have HW : Hid (Bd.cnt q (X ++ F) = List.replicate q 1) := by
      show _ = _
      rw [Q1.out, hFe]
      exact Bd.cnt_whole hn hk
    have HX : Hid (∀ xa ya k : Nat, Bd.bk xa k ∈ F → Bd.bk ya k ∈ F → xa ≠ ya → xa ^^^ ya ≠ 2 ^ k) := fun xa ya k h1 h2 hne => by
      rw [hFe] at h1 h2
      exact Bd.no_halves hn hk h1 h2 hne
    have HS : Hid (F.Pairwise (fun x y => x.a < y.a)) := by
      show List.Pairwise _ _
      rw [hFe]
      exact (Bd.free_is hn hk).sorted
    have hmk := run_make_ints q (by omega)
    have OI := ints_made w4 q (by unfold maxLen; omega)
    obtain ⟨M, hM⟩ : ∃ M, M = madeCells #[Value.int .i64 0] (q * 1) := ⟨_, rfl⟩
    rw [← hM] at hmk OI
    replace OI := hid OI
    clear hM
    have m0 := keep1 (bx w4 (.cells M 3)) c0
    have m1 := keep1 (bx w4 (.cells M 3)) c1
    have A4 : Hid (∀ r, a = some r → 0 < X.length → r.block < w4.heap.size) := fun r hr hp => by
      obtain ⟨x, hx⟩ : ∃ x, X[0]? = some x := ⟨_, List.getElem?_eq_getElem hp⟩
      obtain ⟨b, o, e, h1, _⟩ := H4.out 0 x hx
      rw [hr] at e
      cases e
      exact World.block_lt_of_cell? w4 _ h1
    have KCat := hid fun W rb (h1 : PgAt W a X) (h2 : PgAt W a4 F) q1 q2 => concat_any W rb a a4 c k4 X F h1 h2 HC.out N4.out q1 q2 (by omega) (by omega)
    clear hb ho4 hp4 KF hFe hF hck hk H3 B3
    have hq1 : (0 : Int) < (q : Int) := by omega
    have hq2 : (q : Int) ≤ 1024 := by omega
    go_wp2_with fail
    obtain ⟨r0, r1⟩ := now2 (w4.alloc (.cells M 3)) (.slice a X.length c) (.slice a4 F.length k4) 22
    have hrb : (w4.alloc (.cells M 3)).heap.size = w4.heap.size + 1 := by simp
    rw [hrb] at r0 r1
    have hb5 := below_tr (bx w4 (.cells M 3)) (bx _ (.cells #[.slice a X.length c, .slice a4 F.length k4] 22))
    have O5 := OI.out.below (bx _ (.cells #[.slice a X.length c, .slice a4 F.length k4] 22))
    replace c0 := keep1 hb5 c0
    have hs5 : ((w4.alloc (.cells M 3)).alloc (.cells #[.slice a X.length c, .slice a4 F.length k4] 22)).heap.size = w4.heap.size + 2 := by simp
    have B5 := hid (below_tr B4.out hb5)
    have P5 := hid (P4.out.below hb5)
    have H5 := hid (H4.out.below hb5)
    have HO5 := hid O5
    have HB4 : Hid (w.heap.size ≤ w4.heap.size) := B4.out.size
    have hbx : Hid (w.heap.size < w4.heap.size) := World.block_lt_of_cell? w4 _ c1
    clear OI m0 m1 hmk hb5 O5 hrb B4 P4 H4 c1
    generalize (w4.alloc (.cells M 3)).alloc (.cells #[.slice a X.length c, .slice a4 F.length k4] 22) = w5 at *
    generalize hgp : w4.heap.size = gp at *
    clear hgp
    refine (KCat.out _ _ H5.out P5.out r0 r1).mono ?_
    rintro r w7 ⟨v7, rfl, ho7, hb⟩
    obtain ⟨a7, k7, rfl, hp7, hge7, -⟩ := ho7.at_
    replace c0 := keep1 hb c0
    have O7 := hid (HO5.out.below hb)
    have B7 := hid (below_tr B5.out hb)
    have P7 := hid (P5.out.below hb)
    have Z7 := hid hp7
    have G7 : Hid (∀ q, a7 = some q → q.block ≠ gp) := fun q hq => by have := hge7 q hq; omega
    have G4 : Hid (∀ q, a4 = some q → q.block ≠ gp) := fun q hq => by have := L4.out q hq; omega
    have hzl : (X ++ F).length ≤ 2048 := by rw [List.length_append]; omega
    clear hb ho7 hp7 hge7 KCat HO5 B5 P5 H5 r0 r1 hs5 A4 N4 L4 HB4
    obtain ⟨Z, hZ⟩ : ∃ Z, Z = X ++ F := ⟨_, rfl⟩
    rw [← hZ] at Z7 HZ HW hzl ⊢
    have HZL := hid hzl
    have HFL := hid hFl
    have HQ2 := hid q2
    have HQ3 := hid q3
    have HNN := hid hn
    clear hZ hzl hFl hXl hl q2 q3 hn hq1
    go_wp2_with fail
    go_loopw [51] (fun i wr => ∃ k : Nat, k ≤ Z.length ∧ i = .int .i64 (k : Int) ∧ Hid (OwnInts wr gp (.slice (some ⟨gp, 0, none⟩) q q) (Bd.cnt q (Z.take k))) ∧ Hid (Goes (fun b => b = gp) w7 wr (fun b => b = gp))) (fun i _ => Z.length - (intOf i).toNat)
    case atStart => exact ⟨0, Nat.zero_le _, rfl, by show OwnInts _ _ _ _; rw [List.take_zero, Bd.cnt_nil]; exact O7.out, Goes.refl _ _⟩
    case round =>
      obtain ⟨k, hkl, rfl, hO, hG⟩ := hrel
      have d0 := cell_goes c0 hG.out (by have := hbx.out; show w.heap.size ≠ gp; omega)
      by_cases hlt : k < Z.length
      · obtain ⟨x, hx⟩ : ∃ x, Z[k]? = some x := ⟨_, List.getElem?_eq_getElem hlt⟩
        obtain ⟨bb, oo, e7, d1, d2⟩ := (Z7.out.goes hG.out G7.out) k x hx
        obtain ⟨xa, xo, rfl, g1, g2, g3⟩ := HZ.out x (List.mem_of_getElem? hx)
        have hxo := Nat.le_trans g1 HNN.out
        obtain ⟨p, P1, p2, p3, t1, t1'⟩ := shl1 hxo
        have HGB := hid (G7.out _ e7)
        subst e7
        rw [← P1.out] at g2 g3
        replace d1 : wr.cell? ⟨bb, oo + k * 2, none⟩ = some (.int .i64 (xa : Int)) := d1
        replace d2 : wr.cell? ⟨bb, oo + k * 2 + 1, none⟩ = some (.int .i64 (xo : Int)) := d2
        have e0 := keep1 (bx wr (.cells #[.int .i64 (xa : Int), .int .i64 (xo : Int)] 29)) d0
        obtain ⟨j1, j2, j3, j3', j4, w1, j5, j6, hx0, k0, k1⟩ := whole_num (k := k) (l := Z.length) g1 g2 g3 p2 HQ3.out hlt
        have HG1 := hid g1
        have HG3 := hid g3
        have HP2 := hid p2
        have HP3 := hid p3
        have HLT := hid hlt
        have HKL := hid hkl
        have NT := hid (Bd.take_snoc hx)
        have HOG := hO
        have O2 := hid (hO.out.below (bx wr (.cells #[.int .i64 (xa : Int), .int .i64 (xo : Int)] 29)))
        have G2 := hid (hG.out.alloc (.cells #[.int .i64 (xa : Int), .int .i64 (xo : Int)] 29))
        obtain ⟨y0, y1⟩ := now2 wr (.int .i64 (xa : Int)) (.int .i64 (xo : Int)) 29
        clear hx hO hG g1 g2 g3 p2 p3 hlt hkl d0
        go_wp2_with fail
        go_quiet (fail)
        go_wp2_with fail
        have O3 : Hid (OwnInts ((wr.alloc (.cells #[.int .i64 (xa : Int), .int .i64 (xo : Int)] 29)).drewN nq) gp (.slice (some ⟨gp, 0, none⟩) q q) (Bd.cntI q (Z.take k) xa 0)) := by
          show OwnInts _ _ _ _
          rw [Bd.cntI_zero]
          exact O2.out.keep fun _ _ => rfl
        have G3 : Hid (Goes (fun b => b = gp) w7 ((wr.alloc (.cells #[.int .i64 (xa : Int), .int .i64 (xo : Int)] 29)).drewN nq) (fun b => b = gp)) := ⟨G2.out.os, G2.out.tape, G2.out.output, G2.out.size, G2.out.block, G2.out.grow⟩
        have Y0 : Hid (((wr.alloc (.cells #[.int .i64 (xa : Int), .int .i64 (xo : Int)] 29)).drewN nq).cell? ⟨wr.heap.size, 0, none⟩ = some (.int .i64 (xa : Int))) := y0
        have HNG : Hid (wr.heap.size ≠ gp) := fun e => by have h1 := (HOG.out.lt gp rfl).2; omega
        clear y0 y1 e0 O2 G2 j1 j2 j3 j3' j4 w1 j5 j6 k0 k1 d1 d2
        generalize wr.heap.size = bx9 at *
        generalize (wr.alloc (.cells #[.int .i64 (xa : Int), .int .i64 (xo : Int)] 29)).drewN nq = W2 at *
        go_loopw [93] (fun j ws => ∃ m : Nat, m ≤ p ∧ j = .int .i64 (m : Int) ∧ Hid (OwnInts ws gp (.slice (some ⟨gp, 0, none⟩) q q) (Bd.cntI q (Z.take k) xa m)) ∧ Hid (Goes (fun b => b = gp) W2 ws (fun b => b = gp))) (fun j _ => p - (intOf j).toNat)
        case atStart => exact ⟨0, Nat.zero_le _, rfl, O3, Goes.refl _ _⟩
        case round =>
          obtain ⟨m, hmp, rfl, hO2, hG2⟩ := hrel
          by_cases hm : m < p
          · have y0 := cell_goes Y0.out hG2.out HNG.out
            have hat := hO2.out.cell (Bd.cntI_at (inner_lt HG3.out hm))
            have hfz := hO2.out.fz (xa + m)
            have hcv : (Z.take k).countP (Bd.cov (xa + m)) ≤ 2048 := Nat.le_trans List.countP_le_length (by rw [List.length_take]; exact Nat.le_trans (Nat.min_le_right _ _) HZL.out)
            have NS := hid ((hO2.out.set (xa + m) (((Z.take k).countP (Bd.cov (xa + m)) : Int) + 1)))
            rw [Bd.cntI_set] at NS
            generalize (Z.take k).countP (Bd.cov (xa + m)) = v at *
            obtain ⟨i1, i2, i3, i4, i5, i6⟩ := inner_num HG3.out HQ3.out hm hcv
            have NG := hid (hG2.out.setCell (q := ⟨gp, xa + m, none⟩) (.inl rfl) (.int .i64 ((v : Int) + 1)))
            have HMP := hid hmp
            have HM := hid hm
            clear hO2 hG2 hmp hm hcv
            go_wp2_with fail
            go_roundw
            case rel => exact ⟨m + 1, HM.out, by go_num, NS, NG⟩
            case measure => exact inner_meas HM.out
          · obtain rfl : m = p := Nat.le_antisymm hmp (Nat.le_of_not_lt hm)
            have j3 : decide ((m : Int) < (m : Int)) = false := by simp
            have kk : (k : Int) ≤ 2048 := Int.ofNat_le.2 (Nat.le_trans (Nat.le_of_lt HLT.out) HZL.out)
            have NO : Hid (OwnInts wr gp (.slice (some ⟨gp, 0, none⟩) q q) (Bd.cnt q (Z.take (k + 1)))) := by
              have h1 := hO2.out
              rw [P1.out, Bd.cntI_all, ← NT.out] at h1
              exact h1
            have NG := hid (G3.out.trans hG2.out)
            clear hO2 hG2 hmp hm
            go_wp2_with fail
            go_roundw
            case rel => exact ⟨k + 1, HLT.out, by go_num, NO, NG⟩
            case measure => exact inner_meas HLT.out
      · obtain rfl : k = Z.length := Nat.le_antisymm hkl (Nat.le_of_not_lt hlt)
        have j3 : decide ((Z.length : Int) < (Z.length : Int)) = false := by simp
        have O8 := hO.out
        rw [List.take_length, HW.out] at O8
        have KO := hid fun W h => ones_any W (some ⟨gp, 0, none⟩) q q h (Nat.le_trans HQ3.out (by decide))
        have I8 : Hid (IntsAt wr (some ⟨gp, 0, none⟩) (List.replicate q 1)) := by
          obtain ⟨a8, c8, e8, h8, -⟩ := O8.at_
          injection e8 with e8 _ _
          rw [e8]
          exact h8
        have F8 := hid (P7.out.goes hG.out G4.out)
        have B8 : Hid (Below w.heap.size w wr) := B7.out.trans (hG.out.below B7.out.size (fun q hq => Nat.le_of_lt (hq ▸ hbx.out)))
        clear hO hG O8 hkl hlt d0 Z7 HW HZ c0 O7 P7 B7
        go_wp2_with fail
        refine (KO.out _ I8.out).mono ?_
        rintro r w8 ⟨rfl, hb⟩
        have F9 := hid (F8.out.below hb)
        have B9 := hid (below_tr B8.out hb)
        clear hb KO I8 F8 B8
        go_wp2_with fail
        go_loopw [11] (fun i ws => ∃ m : Nat, 1 ≤ m ∧ i = .int .i64 (m : Int) ∧ m ≤ 1025 ∧ Hid (Below w8.heap.size w8 ws)) (fun i _ => 1025 - (intOf i).toNat)
        case atStart => exact ⟨1, Nat.le_refl _, rfl, by decide, Below.refl _ _⟩
        case round =>
          obtain ⟨m, hm1, rfl, hm2, hb⟩ := hrel
          by_cases hm : m < F.length
          · obtain ⟨t, rfl⟩ : ∃ t, m = t + 1 := ⟨m - 1, (Nat.sub_add_cancel hm1).symm⟩
            obtain ⟨x, hx⟩ : ∃ x, F[t]? = some x := ⟨_, List.getElem?_eq_getElem (Nat.lt_of_succ_lt hm)⟩
            obtain ⟨y, hy⟩ : ∃ y, F[t + 1]? = some y := ⟨_, List.getElem?_eq_getElem hm⟩
            have hxy := sorted_next HS.out hx hy
            obtain ⟨xa, xo, rfl, x1, x2⟩ := HFm.out x (List.mem_of_getElem? hx)
            obtain ⟨ya, yo, rfl, y1, y2⟩ := HFm.out y (List.mem_of_getElem? hy)
            obtain ⟨b1, o1, e1, d1, d2⟩ := (F9.out.below hb.out) t _ hx
            obtain ⟨b2, o2, e2, d3, d4⟩ := (F9.out.below hb.out) (t + 1) _ hy
            subst e1
            cases e2
            replace d1 : wr.cell? ⟨b1, o1 + t * 2, none⟩ = some (.int .i64 (xa : Int)) := d1
            replace d2 : wr.cell? ⟨b1, o1 + t * 2 + 1, none⟩ = some (.int .i64 (xo : Int)) := d2
            replace d3 : wr.cell? ⟨b1, o1 + (t + 1) * 2, none⟩ = some (.int .i64 (ya : Int)) := d3
            replace d4 : wr.cell? ⟨b1, o1 + (t + 1) * 2 + 1, none⟩ = some (.int .i64 (yo : Int)) := d4
            have hxo := Nat.le_trans x1 HNN.out
            obtain ⟨p, P1, p2, p3, t1, t1'⟩ := shl1 hxo
            have hxor : xo = yo → xa ^^^ ya ≠ p := fun e => by
              subst e
              rw [P1.out]
              exact HX.out xa ya xo (List.mem_of_getElem? hx) (List.mem_of_getElem? hy) (Nat.ne_of_lt (Int.ofNat_lt.1 hxy))
            obtain ⟨n1, n2, n3, n4, n5, n6, n7, n8⟩ := last_num hm (Nat.le_trans HFL.out HQ3.out)
            have hxr := xor_num (xa := xa) (ya := ya) (p := p) x2 y2 HQ3.out
            have HM := hid hm
            clear hm hm1 hm2 hx hy hxy x1 x2 y1 y2 p2 p3
            have SB : Hid (∀ W, Below wr.heap.size wr W → W.cell? ⟨b1, o1 + t * 2, none⟩ = some (.int .i64 (xa : Int)) ∧ W.cell? ⟨b1, o1 + t * 2 + 1, none⟩ = some (.int .i64 (xo : Int)) ∧ W.cell? ⟨b1, o1 + (t + 1) * 2, none⟩ = some (.int .i64 (ya : Int)) ∧ W.cell? ⟨b1, o1 + (t + 1) * 2 + 1, none⟩ = some (.int .i64 (yo : Int))) := fun W hW => ⟨keep1 hW d1, keep1 hW d2, keep1 hW d3, keep1 hW d4⟩
            by_cases hoo : xo = yo
            · have hne := hxr.2 (hxor hoo)
              have hxe := hxr.1
              have j1 : ((xo : Int) == (yo : Int)) = true := by rw [hoo]; simp
              have j1' : (xo == yo) = true := by rw [hoo]; simp
              generalize xa ^^^ ya = zz at *
              clear hxr hxor hoo
              go_wp2_with fail
              go_region_held3 (fun W => W.cell? ⟨b1, o1 + t * 2, none⟩ = some (.int .i64 (xa : Int)) ∧ W.cell? ⟨b1, o1 + t * 2 + 1, none⟩ = some (.int .i64 (xo : Int)) ∧ W.cell? ⟨b1, o1 + (t + 1) * 2, none⟩ = some (.int .i64 (ya : Int)) ∧ W.cell? ⟨b1, o1 + (t + 1) * 2 + 1, none⟩ = some (.int .i64 (yo : Int)))
                ((refine SB.out _ ?_; repeat (first | exact Below.refl _ _ | refine Below.drew ?_ | (refine Below.alloc ?_ (by simp) _) | (refine Below.setCell ?_ (by simp) _))))
                (fail)
              all_goals (go_wp2_with fail)
              all_goals (go_quiet (fail))
              all_goals (go_wp2_with fail)
              all_goals go_roundw
              all_goals (try (case rel => exact ⟨t + 1 + 1, Nat.le_add_left _ _, by go_num, last_up HM.out (Nat.le_trans HFL.out HQ3.out), hid (below_drewN (below_tr hb.out (below_tr (bx _ _) (bx _ _))) _)⟩))
              all_goals (try (case measure => exact last_meas HM.out (Nat.le_trans HFL.out HQ3.out)))
            · have j1 : ((xo : Int) == (yo : Int)) = false := by rw [beq_eq_false_iff_ne]; exact fun e => hoo (Int.ofNat.inj e)
              have j1' : (xo == yo) = false := by simpa using hoo
              clear hxr hxor hoo
              go_wp2_with fail
              go_region_held3 (fun W => W.cell? ⟨b1, o1 + t * 2, none⟩ = some (.int .i64 (xa : Int)) ∧ W.cell? ⟨b1, o1 + t * 2 + 1, none⟩ = some (.int .i64 (xo : Int)) ∧ W.cell? ⟨b1, o1 + (t + 1) * 2, none⟩ = some (.int .i64 (ya : Int)) ∧ W.cell? ⟨b1, o1 + (t + 1) * 2 + 1, none⟩ = some (.int .i64 (yo : Int)))
                ((refine SB.out _ ?_; repeat (first | exact Below.refl _ _ | refine Below.drew ?_ | (refine Below.alloc ?_ (by simp) _) | (refine Below.setCell ?_ (by simp) _))))
                (fail)
              all_goals (go_wp2_with fail)
              all_goals (go_quiet (fail))
              all_goals (go_wp2_with fail)
              all_goals go_roundw
              all_goals (try (case rel => exact ⟨t + 1 + 1, Nat.le_add_left _ _, by go_num, last_up HM.out (Nat.le_trans HFL.out HQ3.out), hid (below_drewN (below_tr hb.out (below_tr (bx _ _) (bx _ _))) _)⟩))
              all_goals (try (case measure => exact last_meas HM.out (Nat.le_trans HFL.out HQ3.out)))
          · have j3 := last_done hm
            clear hm hm1 hm2
            go_wp2_with fail
            go_ret
            exact ⟨rfl, below_tr B9.out hb.out⟩
  · have hF : Bd.freeA N X = [] := by unfold Bd.freeA; rw [if_neg hck]
    rw [hF] at ho4
    obtain ⟨a4, k4, rfl, _⟩ := ho4.at_
    generalize Bd.check N X = C at *
    have hne : ((C : Int) != 0) = true := by simp; omega
    clear hb ho4 KF hF
    go_wp2_with fail
    go_ret
    exact ⟨rfl, B4.out⟩

end Go.Proofs.Ytodimkkgmidgcah.PBuddy
