/- buddy.greatest, fillGap and Free, walked: each answers what the plain functions say; what is free lies in a row of its own; nothing else that was there has turned. Conditions: the order is one that may be; how many blocks there are. -/
import Derived.Test.YtodimkkgmidgcabBuddyCheck
namespace Go.Proofs.Ytodimkkgmidgcab.PBuddy
open Go Go.RowKit PPool
set_option maxRecDepth 100000

/-- 2 << k. -/
theorem shl2 {k : Nat} (h : k ≤ 10) : ∃ p : Nat, Hid (p = 2 ^ (k + 1)) ∧ 0 < p ∧ p ≤ 2048 ∧ IntKind.i64.wrap (2 * 2 ^ k) = (p : Int) ∧ wrap64 (2 * 2 ^ k) = (p : Int) := by
  have h1 := Bd.pow_le h
  have e := Bd.cast_pow k
  have h2 := Bd.pow_pos' k
  obtain ⟨p, hp⟩ : ∃ p, p = 2 ^ k := ⟨_, rfl⟩
  rw [← hp] at h1 e h2
  have h3 : IntKind.i64.wrap (2 * 2 ^ k) = ((2 * p : Nat) : Int) := by rw [← e, IntWalk.i64_in _ ⟨by omega, by omega⟩]; rfl
  exact ⟨2 * p, hid (by rw [Nat.pow_succ, ← hp, Nat.mul_comm]), by omega, by omega, h3, by rw [← IntWalk.i64_left]; exact h3⟩

theorem great_result {W : World} {b : Nat} {u v : Value} (h : W.cell? ⟨b, 0, none⟩ = some u ∧ W.cell? ⟨b, 1, none⟩ = some v) (tmps : Array Value) (h2 : tmps.getD 4 undef = .pointer (some ⟨b, 0, none⟩)) :
    (results Try.f29 tmps).run Try.prog W = .ok (.agg #[u, v]) W := by
  have h5 : tmps[4]?.getD undef = .pointer (some ⟨b, 0, none⟩) := by simpa using h2
  simp [results, Try.results29, go_sem, h5, h.1, h.2]
theorem res2 {W : World} {b : Nat} {x y : Value} {T : TypeId} (h : W.heap[b]? = some (.cells #[x, y] T (0, 0))) (u v : Value) :
    ((W.setCell ⟨b, 0, none⟩ u).setCell ⟨b, 1, none⟩ v).cell? ⟨b, 0, none⟩ = some u ∧ ((W.setCell ⟨b, 0, none⟩ u).setCell ⟨b, 1, none⟩ v).cell? ⟨b, 1, none⟩ = some v := by
  have h1 : (W.setCell ⟨b, 0, none⟩ u).heap[b]? = some (.cells #[u, y] T (0, 0)) := by
    rw [setCell_eq_setRow W b 0 _ T _ u h]
    exact setRow_heap W b _ _ T _ h
  have h2 : ((W.setCell ⟨b, 0, none⟩ u).setCell ⟨b, 1, none⟩ v).heap[b]? = some (.cells #[u, v] T (0, 0)) := by
    rw [setCell_eq_setRow _ b 1 _ T _ v h1]
    exact setRow_heap _ b _ _ T _ h1
  exact ⟨by rw [cell_of_row _ _ _ _ _ _ h2]; rfl, by rw [cell_of_row _ _ _ _ _ _ h2]; rfl⟩
theorem blk2 {w : World} {x y : Value} {T : TypeId} {w1 : World} (hb : Below (w.alloc (.cells #[x, y] T)).heap.size (w.alloc (.cells #[x, y] T)) w1) :
    w1.heap[w.heap.size]? = some (.cells #[x, y] T (0, 0)) := (hb.block _ (by simp)).trans (heap_alloc_new w _)
theorem fz_of {w : World} {b : Nat} {cs : Array Value} {T : TypeId} (h : w.heap[b]? = some (.cells cs T (0, 0))) (i : Nat) : w.frozen? ⟨b, i, none⟩ = false := by simp [World.frozen?, h]
theorem Below.two' {w w' : World} (h : Below w.heap.size w w') (i j : Nat) (u v : Value) : Below w.heap.size w ((w'.setCell ⟨w.heap.size, i, none⟩ u).setCell ⟨w.heap.size, j, none⟩ v) :=
  (h.setCell (p := ⟨w.heap.size, i, none⟩) (Nat.le_refl _) _).setCell (p := ⟨w.heap.size, j, none⟩) (Nat.le_refl _) _

set_option maxHeartbeats 1000000 in
theorem greatest_any (w : World) (p e : Nat) (he : e ≤ 1024) (hpe : p < e) :
    Calls Try.prog 29 #[.int .i64 (p : Int), .int .i64 (e : Int)] w fun r w' => r = .returned (.agg #[.int .i64 (p : Int), .int .i64 (Bd.gr p e : Int)]) ∧ Below w.heap.size w w' := by
  obtain ⟨Y, hY⟩ : ∃ Y, Y = Bd.gr p e := ⟨_, rfl⟩
  rw [← hY]
  have HY := hid hY
  clear hY
  go_enter Try.func29, Try.ntmps29
  go_wp2_with fail
  go_loopw [5] (fun o wr => ∃ k : Nat, k ≤ 10 ∧ o = .int .i64 (k : Int) ∧ Hid (∀ j, j < k → p % 2 ^ (j + 1) = 0 ∧ p + 2 ^ (j + 1) ≤ e) ∧ Hid (wr = w.alloc (.cells #[.int .i64 0, .int .i64 0] 37))) (fun o _ => 10 - (intOf o).toNat)
  case atStart => exact ⟨0, by omega, rfl, fun j hj => by omega, hid rfl⟩
  case round =>
    obtain ⟨k, hk, rfl, hO, hw⟩ := hrel
    have hwr := hw.out
    obtain ⟨q, Q1, q2, q3, s1, s1'⟩ := shl2 hk
    have t0 : ¬ (q : Int) = 0 := by omega
    have t1 : (p : Int).tmod (q : Int) = ((p % q : Nat) : Int) := by rw [Int.tmod_eq_emod_of_nonneg (by omega)]; rfl
    have w1 : IntKind.i64.wrap ((p : Int) + (q : Int)) = (p : Int) + (q : Int) := IntWalk.i64_in _ ⟨by omega, by omega⟩
    by_cases h1 : p % q = 0
    · by_cases h2 : p + q ≤ e
      · have NO : Hid (∀ j, j < k + 1 → p % 2 ^ (j + 1) = 0 ∧ p + 2 ^ (j + 1) ≤ e) := fun j hj => by
          by_cases ej : j = k
          · subst ej; rw [← Q1.out]; exact ⟨h1, h2⟩
          · exact hO.out j (by omega)
        have hk10 : k + 1 ≤ 10 := by
          rcases Nat.lt_or_ge k 10 with h | h
          · exact h
          · obtain rfl : k = 10 := by omega
            have := Q1.out
            omega
        rw [h1] at t1
        have h3 : (p : Int) + (q : Int) ≤ (e : Int) := by omega
        clear hO hwr
        go_wp2_with fail
        go_roundw
        case rel => exact ⟨k + 1, by omega, by go_num, NO, hw⟩
        case measure => simp [intOf]; omega
      · have HF : Hid (Y = k) := by
          show _ = _
          rw [HY.out]
          exact Bd.gr_of (by omega) hO.out (fun g => h2 (by rw [Q1.out]; exact g.2))
        rw [h1] at t1
        have h3 : ¬ (p : Int) + (q : Int) ≤ (e : Int) := by omega
        clear hO HY
        subst hwr
        go_wp2_with fail
        refine bodyPost_ret (great_result (box2 (Below.refl _ _)) _ rfl) rfl ?_
        exact ⟨by rw [HF.out], bx _ _⟩
    · have HF : Hid (Y = k) := by
        show _ = _
        rw [HY.out]
        exact Bd.gr_of (by omega) hO.out (fun g => h1 (by rw [Q1.out]; exact g.1))
      have h3 : ((p % q : Nat) : Int) ≠ 0 := by omega
      have h4 : (((p % q : Nat) : Int) == 0) = false := by rw [beq_eq_false_iff_ne]; exact h3
      generalize p % q = z at *
      clear hO HY
      subst hwr
      go_wp2_with fail
      refine bodyPost_ret (great_result (box2 (Below.refl _ _)) _ rfl) rfl ?_
      exact ⟨by rw [HF.out], bx _ _⟩

theorem gr_fits {p e : Nat} (h : p < e) : p + 2 ^ Bd.gr p e ≤ e := by
  cases hk : Bd.gr p e with
  | zero => simp; omega
  | succ k =>
    have h1 : k < (List.range 12).findIdx (fun k => !decide (p % 2 ^ (k + 1) = 0 ∧ p + 2 ^ (k + 1) ≤ e)) := by
      show k < Bd.gr p e
      omega
    have h2 := List.not_of_lt_findIdx h1
    simp at h2
    exact h2.2
theorem gr_ten {p e : Nat} (h : p < e) (he : e ≤ 1024) : Bd.gr p e ≤ 10 := by
  have h1 := gr_fits h
  rcases Nat.lt_or_ge 10 (Bd.gr p e) with h2 | h2
  · have := Nat.pow_le_pow_right (n := 2) (by omega) h2
    omega
  · exact h2

theorem one_cells (W : World) (x : Bd.Bk) : ∀ j u, (sc x)[j]? = .some u → (W.alloc (.cells #[.int .i64 x.a, .int .i64 x.o] 37)).cell? ((⟨W.heap.size, 0, none⟩ : Addr).add j) = .some u := by
  intro j u hj
  rw [Addr.add_mid, Nat.zero_add, cell_of_row _ _ _ _ _ _ (heap_alloc_new W _)]
  match j, hj with
  | 0, hj => exact hj
  | 1, hj => exact hj

/-- What one's own row is kept from: all but its block. -/
abbrev ownB (v : Value) : Nat → Prop := fun b => v.ownBlock = some b
theorem goes_of_below {own : Nat → Prop} {w w' : World} (hb : Below w.heap.size w w') : Goes own w w' own := ⟨hb.os, hb.tape, hb.output, hb.size, fun k hk _ => hb.block k hk, fun _ h => .inl h⟩

set_option maxHeartbeats 1000000 in
theorem fillGap_any (w : World) (base : Nat) (v : Value) (F : List Bd.Bk) (p e : Nat) (he : e ≤ 1024) (hpe : p ≤ e) (hF : F.length ≤ p) (h : OwnPg w base v F) (hbase : base ≤ w.heap.size) :
    Calls Try.prog 17 #[v, .int .i64 (p : Int), .int .i64 (e : Int)] w fun r w' => ∃ v', r = .returned v' ∧ OwnPg w' base v' (F ++ Bd.fill p e) ∧ Goes (ownB v) w w' (ownB v') := by
  obtain ⟨i0, hi, hz0, hz1, hz2⟩ := info_parts block_info
  obtain ⟨R, hR⟩ : ∃ R, R = F ++ Bd.fill p e := ⟨_, rfl⟩
  rw [← hR]
  have HR := hid hR
  have H := hid h
  have KG := hid fun W q hq => greatest_any W q e he hq
  have KE := hid fun W a k hk ha => endOf_any W a k hk ha
  clear h hR
  go_enter Try.func17, Try.ntmps17
  go_wp2_with fail
  go_loopw [0, 1] (fun u i wr => ∃ (q : Nat) (G : List Bd.Bk) (a : Option Addr) (c : Nat), q ≤ e ∧ G.length ≤ q ∧ i = .int .i64 (q : Int) ∧ u = .slice a G.length c ∧ Hid (R = G ++ Bd.fill q e) ∧ Hid (OwnPg wr base u G) ∧ Hid (Goes (ownB v) w wr (ownB u))) (fun _ i _ => e - (intOf i).toNat)
  case atStart =>
    obtain ⟨a, c, rfl, _⟩ := H.out.at_
    exact ⟨p, F, a, c, hpe, hF, rfl, rfl, HR, H, Goes.refl _ _⟩
  case round =>
    obtain ⟨q, G, a, c, hq, hG, rfl, rfl, hR, hO, hg⟩ := hrel
    by_cases hlt : q < e
    · have hl : (q : Int) < (e : Int) := by omega
      have f1 := gr_fits hlt
      have f2 := gr_ten hlt he
      have NR : Hid (R = G ++ [Bd.bk q (Bd.gr q e)] ++ Bd.fill (q + 2 ^ Bd.gr q e) e) := by
        show _ = _
        rw [hR.out, Bd.fill_some hlt]
        simp
      have KG' := hid fun W => KG.out W q hlt
      have hp := Bd.pow_pos' (Bd.gr q e)
      clear hR
      generalize Bd.gr q e = k at *
      go_wp2_with fail
      refine (KG'.out _).mono ?_
      rintro r w1 ⟨rfl, hb⟩
      have g1 := hg.out.trans (goes_of_below hb)
      have O1 := hid ((hO.out.below hb).keepAlloc (.cells #[.int .i64 (q : Int), .int .i64 (k : Int)] 37))
      have G1 := hid (g1.alloc (.cells #[.int .i64 (q : Int), .int .i64 (k : Int)] 37))
      have hnb : (Value.slice a G.length c).ownBlock ≠ some w1.heap.size := fun e => by
        have := ((hO.out.below hb).lt _ e).2
        omega
      have HN := hid hnb
      clear hb hg hO g1 hnb
      obtain ⟨b0, b1⟩ := box2 (Below.refl (w1.alloc (.cells #[.int .i64 (q : Int), .int .i64 (k : Int)] 37)).heap.size (w1.alloc (.cells #[.int .i64 (q : Int), .int .i64 (k : Int)] 37)))
      have hs1 : base ≤ w1.heap.size + 1 := by have := G1.out.size; simp at this; omega
      go_wp2_with (at_builtin; refine wpList_append_own_at _ rfl _ _ 22 rfl base 37 i0 (.agg #[.int .i64 0, .int .i64 0]) 2 16 Try.underlying22 hi hz0 hz1 hz2 rfl (by decide) _ _ _ rfl (O1.out.keepAlloc _) ⟨w1.heap.size + 1, 0, none⟩ 1 1 (sc (Bd.bk q k)) rfl rfl ?qc2 ?qc3 ?qc4 ?qc5 ?qc6 ?_)
      case qc2 =>
        have := one_cells (w1.alloc (.cells #[.int .i64 (q : Int), .int .i64 (k : Int)] 37)) (Bd.bk q k)
        rw [World.size_alloc] at this
        exact this
      case qc3 => exact sc_one _
      case qc4 => unfold maxLen; omega
      case qc5 => omega
      case qc6 => simp; omega
      intro v' w4 hown hgrow _ hat
      have O5 := hid (OwnPg.grows hown)
      have gg := (G1.out.alloc (.cells #[.int .i64 (q : Int), .int .i64 (k : Int)] 37)).grown hgrow (fun k hk => G1.out.grow k hk)
      have G5 : Hid (Goes (ownB v) w w4 (ownB v')) := ⟨gg.os, gg.tape, gg.output, gg.size, gg.block, fun g hg => by
        rcases hat with e | e
        · exact gg.grow g (e.symm.trans hg)
        · right
          have e2 : some g = some _ := hg.symm.trans e
          injection e2 with e2
          have := G1.out.size
          rw [e2]
          simp at this ⊢
          omega⟩
      have hbk : w4.heap[w1.heap.size]? = some (.cells #[.int .i64 (q : Int), .int .i64 (k : Int)] 37 (0, 0)) :=
        (hgrow.block w1.heap.size (by simp; omega) (fun e => HN.out e.symm)).trans ((Below.heap_alloc (w1.alloc (.cells #[.int .i64 (q : Int), .int .i64 (k : Int)] 37)) _ _ (by simp)).trans (heap_alloc_new w1 _))
      have e0 : w4.cell? ⟨w1.heap.size, 0, none⟩ = some (.int .i64 (q : Int)) := by rw [cell_of_row w4 _ _ _ _ _ hbk]; rfl
      have e1 : w4.cell? ⟨w1.heap.size, 1, none⟩ = some (.int .i64 (k : Int)) := by rw [cell_of_row w4 _ _ _ _ _ hbk]; rfl
      clear hown hgrow gg hat hbk b0 b1 O1 G1 HN hs1
      go_wp2_with fail
      refine (KE.out _ q k f2 (by omega)).mono ?_
      rintro r w6 ⟨rfl, hb⟩
      have O6 := hid (O5.out.below hb)
      have G6 := hid (G5.out.trans (goes_of_below hb))
      clear hb O5 G5 e0 e1
      obtain ⟨z, hz⟩ : ∃ z, z = q + 2 ^ k := ⟨_, rfl⟩
      rw [← hz] at NR f1 ⊢
      have hzq : q < z := by omega
      obtain ⟨a6, c6, rfl, _⟩ := O6.out.at_
      have hgl : (G ++ [Bd.bk q k]).length ≤ z := by simp; omega
      generalize G ++ [Bd.bk q k] = G' at *
      clear hz hp
      go_wp2_with fail
      go_roundw
      case rel => exact ⟨z, G', a6, c6, f1, hgl, rfl, rfl, NR, O6, G6⟩
      case measure => simp [intOf]; omega
    · obtain rfl : q = e := by omega
      have HE : Hid (R = G) := by
        show _ = _
        rw [hR.out, Bd.fill_none (Nat.le_refl _), List.append_nil]
      have j3 : decide ((q : Int) < (q : Int)) = false := by simp
      clear hR HR
      go_wp2_with fail
      go_ret
      exact ⟨_, rfl, by rw [HE.out]; exact hO.out, hg.out⟩

/-- What Free answers. -/
def Bd.freeA (N : Int) (X : List Bd.Bk) : List Bd.Bk := if Bd.check N X = 0 then Bd.free N.toNat X else []

set_option maxHeartbeats 1000000 in
theorem free_any (w : World) (N : Int) (a : Option Addr) (c : Nat) (X : List Bd.Bk) (h : PgAt w a X) (hl : X.length ≤ 9223372036854775807) :
    Calls Try.prog 5 #[bud N a X.length c] w fun r w' => ∃ v, r = .returned (.tuple #[v, .int .i64 (Bd.check N X : Int)]) ∧ OwnPg w' w.heap.size v (Bd.freeA N X) ∧ Below w.heap.size w w' := by
  have KC := hid fun W (hW : PgAt W a X) => check_any W N a c X hW hl
  have H := hid h
  unfold bud at KC ⊢
  by_cases hc : Bd.check N X = 0
  · obtain ⟨n, rfl, hn, hk⟩ := Bd.check_ok hc
    obtain ⟨R, hR⟩ : ∃ R, R = Bd.freeA (n : Int) X := ⟨_, rfl⟩
    rw [← hR]
    have HR : Hid (R = Bd.frL n 0 X) := by show _ = _; rw [hR]; unfold Bd.freeA Bd.free; rw [if_pos hc, Int.toNat_natCast]
    rw [hc] at KC ⊢
    obtain ⟨q, Q1, q2, q3, s1, s1'⟩ := shl1 hn
    have HK := hid hk
    have KF := hid fun W base v F p e he hpe hF hO hB => fillGap_any W base v F p e he hpe hF hO hB
    have KE := hid fun W a k hk ha => endOf_any W a k hk ha
    clear h hR hc hk
    go_enter Try.func5, Try.ntmps5
    go_wp2_with fail
    refine (KC.out _ (H.out.below (bx _ _))).mono ?_
    rintro r w1 ⟨rfl, hb⟩
    obtain ⟨c0, c1⟩ := box2 hb
    have B1 : Hid (Below (w.heap.size + 1) (w.alloc (.cells #[.int .i64 (n : Int), .slice a X.length c] 24)) w1) := by rw [World.size_alloc] at hb; exact hb
    clear hb KC
    go_wp2_with fail
    go_loopw [17, 5, 6] (fun i u m wr => ∃ (k z : Nat) (F : List Bd.Bk) (ua : Option Addr) (uc : Nat), k ≤ X.length ∧ z ≤ q ∧ F.length ≤ z ∧ i = .int .i64 (k : Int) ∧ m = .int .i64 (z : Int) ∧ u = .slice ua F.length uc ∧ Hid (Bd.chk n z (X.drop k) = true) ∧ Hid (R = F ++ Bd.frL n z (X.drop k)) ∧ Hid (OwnPg wr (w.heap.size + 1) u F) ∧ Hid (Below (w.heap.size + 1) (w.alloc (.cells #[.int .i64 (n : Int), .slice a X.length c] 24)) wr)) (fun i _ _ _ => X.length - (intOf i).toNat)
    case atStart => exact ⟨0, 0, [], none, 0, Nat.zero_le _, Nat.zero_le _, Nat.le_refl _, rfl, rfl, rfl, by show _ = _; simpa using HK.out, by show _ = _; simpa using HR.out, OwnPg.nil _ _, B1⟩
    case round =>
      obtain ⟨k, z, F, ua, uc, hkl, hz, hF, rfl, rfl, rfl, hC, hR, hO, hb⟩ := hrel
      obtain ⟨c0, c1⟩ := box2 (w := w) (T := 24) (by rw [World.size_alloc]; exact hb.out)
      have hsz : w.heap.size + 1 ≤ wr.heap.size := by have := hb.out.size; rw [World.size_alloc] at this; exact this
      by_cases hlt : k < X.length
      · obtain ⟨x, hx⟩ : ∃ x, X[k]? = some x := ⟨_, List.getElem?_eq_getElem hlt⟩
        have hbw : Below w.heap.size w wr := below_tr (bx w (.cells #[.int .i64 (n : Int), .slice a X.length c] 24)) (by rw [World.size_alloc]; exact hb.out)
        obtain ⟨b, o, rfl, d1, d2⟩ := (H.out.below hbw) k x hx
        have k0 : (0 : Int) ≤ (k : Int) := by omega
        have k1 : (k : Int) < (X.length : Int) := by omega
        have hC' := hC.out
        have hR' := hR.out
        rw [Bd.drop_of hx] at hC' hR'
        obtain ⟨xa, xo, rfl, g1, g2, g3, g4, g5⟩ := Bd.chk_cons.1 hC'
        rw [Bd.frL, Bd.en_bk, ← List.append_assoc] at hR'
        have NC := hid g5
        have NR : Hid (R = F ++ Bd.fill z xa ++ Bd.frL n (xa + 2 ^ xo) (X.drop (k + 1))) := hR'
        have hQ := Q1.out
        rw [← hQ] at g3
        have hp := Bd.pow_pos' xo
        have hfl := Bd.fill_len _ z xa (Nat.le_refl _)
        have hnl : (F ++ Bd.fill z xa).length ≤ xa := by rw [List.length_append]; omega
        have d1 : wr.cell? ⟨b, o + k * 2, none⟩ = some (.int .i64 (xa : Int)) := d1
        have d2 : wr.cell? ⟨b, o + k * 2 + 1, none⟩ = some (.int .i64 (xo : Int)) := d2
        have KF' := hid fun W hO hB => KF.out W (w.heap.size + 1) (.slice ua F.length uc) F z xa (by omega) g4 hF hO hB
        have hxo : xo ≤ 10 := by omega
        have hxa : xa ≤ 1024 := by omega
        have OA := hid (hO.out.keepAlloc (.cells #[.int .i64 (xa : Int), .int .i64 (xo : Int)] 37))
        have hB : Hid (Below (w.heap.size + 1) (w.alloc (.cells #[.int .i64 (n : Int), .slice (some ⟨b, o, none⟩) X.length c] 24)) (wr.alloc (.cells #[.int .i64 (xa : Int), .int .i64 (xo : Int)] 37))) := hb.out.alloc hsz _
        have hnb : (Value.slice ua F.length uc).ownBlock ≠ some wr.heap.size := fun e => by
          have := (hO.out.lt _ e).2
          omega
        have HN := hid hnb
        obtain ⟨b0, b1⟩ := box2 (Below.refl (wr.alloc (.cells #[.int .i64 (xa : Int), .int .i64 (xo : Int)] 37)).heap.size (wr.alloc (.cells #[.int .i64 (xa : Int), .int .i64 (xo : Int)] 37)))
        clear hC hR hx hC' hR' g5 hQ hO hb hnb hbw hfl
        go_wp2_with fail
        refine (KF'.out _ OA.out (by simp; omega)).mono ?_
        rintro r w3 ⟨v3, rfl, ho, hg⟩
        have hbk : w3.heap[wr.heap.size]? = some (.cells #[.int .i64 (xa : Int), .int .i64 (xo : Int)] 37 (0, 0)) := (hg.block wr.heap.size (by simp) HN.out).trans (heap_alloc_new wr _)
        have e0 : w3.cell? ⟨wr.heap.size, 0, none⟩ = some (.int .i64 (xa : Int)) := by rw [cell_of_row w3 _ _ _ _ _ hbk]; rfl
        have e1 : w3.cell? ⟨wr.heap.size, 1, none⟩ = some (.int .i64 (xo : Int)) := by rw [cell_of_row w3 _ _ _ _ _ hbk]; rfl
        have B3 := hid (hB.out.trans (hg.below (by simp; omega) (fun g hg => (OA.out.lt g hg).1)))
        have O3 := hid ho
        obtain ⟨a3, c3, rfl, _⟩ := ho.at_
        clear hg ho hbk HN OA hB b0 b1 c0 c1 d1 d2 KF'
        generalize F ++ Bd.fill z xa = F' at *
        go_wp2_with fail
        refine (KE.out _ xa xo hxo hxa).mono ?_
        rintro r w4 ⟨rfl, hb4⟩
        have O4 := hid (O3.out.below hb4)
        have B4 := hid (B3.out.trans (hb4.mono (by have := B3.out.size; rw [World.size_alloc] at this; exact this)))
        clear hb4 O3 B3 e0 e1
        obtain ⟨y, hy⟩ : ∃ y, y = xa + 2 ^ xo := ⟨_, rfl⟩
        rw [← hy] at NR NC g3 ⊢
        have hyF : F'.length ≤ y := by omega
        clear hy hp g2
        go_wp2_with fail
        go_roundw
        case rel => exact ⟨k + 1, y, F', a3, c3, by omega, g3, hyF, by go_num, rfl, rfl, NC, NR, O4, B4⟩
        case measure => simp [intOf]; omega
      · obtain rfl : k = X.length := by omega
        have j3 : decide ((X.length : Int) < (X.length : Int)) = false := by simp
        have HE : Hid (R = F ++ Bd.fill z q) := by
          show _ = _
          rw [hR.out, List.drop_length, Bd.frL, ← Q1.out]
        have KF' := hid fun W hO hB => KF.out W (w.heap.size + 1) (.slice ua F.length uc) F z q q3 hz hF hO hB
        clear hR hC
        go_wp2_with fail
        refine (KF'.out _ hO.out hsz).mono ?_
        rintro r w3 ⟨v3, rfl, ho, hg⟩
        rw [← HE.out] at ho
        have B3 := hid (hb.out.trans (hg.below hsz (fun g hg => (hO.out.lt g hg).1)))
        have O3 := hid (ho.lower (base' := w.heap.size) (by omega))
        clear hg ho hO hb
        go_wp2_with fail
        go_ret2
        exact ⟨_, rfl, O3.out, below_tr (bx _ _) (by rw [World.size_alloc]; exact B3.out)⟩
  · have HF : Hid (Bd.freeA N X = []) := by show _ = _; unfold Bd.freeA; rw [if_neg hc]
    generalize Bd.freeA N X = R at *
    generalize Bd.check N X = C at *
    have hne : ((C : Int) != 0) = true := by simp; omega
    clear h
    go_enter Try.func5, Try.ntmps5
    go_wp2_with fail
    refine (KC.out _ (H.out.below (bx _ _))).mono ?_
    rintro r w1 ⟨rfl, hb⟩
    have B1 := hid (below_tr (bx _ _) hb)
    clear hb KC
    go_wp2_with fail
    go_ret2
    exact ⟨_, rfl, by rw [HF.out]; exact OwnPg.nil _ _, B1.out⟩

end Go.Proofs.Ytodimkkgmidgcab.PBuddy
