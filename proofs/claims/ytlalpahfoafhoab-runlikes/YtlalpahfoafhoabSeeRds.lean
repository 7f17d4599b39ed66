/- see.Reads, see.Last, walked: each answers what the plain words say, and nothing that was there has turned. Conditions: the operations lie where their slice says; the capacity is no less than the length. -/
import Derived.Test.YtlalpahfoafhoabSeeWr
import Derived.Deep.CutRange
import Derived.Deep.AppendLies
namespace Go.Proofs.Ytlalpahfoafhoab.PSee
open Go Go.RowKit PPool PGraph PRun
set_option maxRecDepth 100000

/-- What Reads tells, of whatever run. -/
def seenOf (X : List Rn.Op) : List Gr.Ed := if Rn.check X = 0 then Se.seen X X.length else []
def lastOf (X : List Rn.Op) : Nat → Int := if Rn.check X = 0 then Se.lstN X else fun _ => 0
theorem seen_read {X : List Rn.Op} {k : Nat} {o : Rn.Op} (ho : X[k]? = some o) (hk : o.k = 1) : Se.seen X (k + 1) = Se.seen X k ++ [⟨(k : Int), wrN (wrI X k o.i k)⟩] := by
  have h1 : Se.isR X k = true := Se.isR_iff.2 ⟨o, ho, hk⟩
  rw [Se.seen_next, if_pos h1]
  unfold Se.frm
  rw [ho]
theorem seen_skip {X : List Rn.Op} {k : Nat} {o : Rn.Op} (ho : X[k]? = some o) (hk : ¬ o.k = 1) : Se.seen X (k + 1) = Se.seen X k := by
  rw [Se.seen_next, if_neg (fun h => hk (by obtain ⟨u, hu, h⟩ := Se.isR_iff.1 h; rw [ho] at hu; injection hu with hu; rw [hu]; exact h)), List.append_nil]
structure RdAt (w W : World) (v : Value) (L : List Gr.Ed) : Prop where
  out : OwnPr 95 W w.heap.size v L
  bel : Below w.heap.size w W
theorem RdAt.below {w W W' : World} {v : Value} {L : List Gr.Ed} (h : RdAt w W v L) (hb : Below W.heap.size W W') : RdAt w W' v L := ⟨h.out.below hb, below_tr h.bel hb⟩
theorem pair_news {W : World} {b : Nat} {x y : Value} (h : ArrAt W b #[x, y]) : ∀ j u, [x, y][j]? = some u → W.cell? ((⟨b, 0, none⟩ : Addr).add j) = some u := by
  intro j u hu
  rw [Addr.add_mid, Nat.zero_add]
  exact h.cell (by simpa using hu)

set_option maxHeartbeats 4000000 in
theorem reads_any (w : World) (a : Option Addr) (c : Nat) (X : List Rn.Op) (h : OpAt w a X) (hl : X.length ≤ 9223372036854775807) (hcap : X.length ≤ c) :
    Calls Try.prog 45 #[.slice a X.length c] w fun e w' => ∃ v, e = .returned (.tuple #[v, .int .i64 (Rn.check X)]) ∧ OwnPr 95 w' w.heap.size v (seenOf X) ∧ Below w.heap.size w w' := by
  have H := hid h
  have K1 := hid (check_any w a c X h hl)
  by_cases hv : Rn.check X = 0
  rotate_left
  · have e1 : seenOf X = [] := by unfold seenOf; rw [if_neg hv]
    rw [e1]
    generalize Rn.check X = v at *
    have hv0 : (v != 0) = true := by simpa using hv
    clear hv e1 h
    go_enter Try.func45, Try.ntmps45
    go_wp2_with fail
    refine (K1.out).mono ?_
    rintro r w1 ⟨rfl, hb1⟩
    go_wp2_with fail
    go_ret2
    exact ⟨_, rfl, OwnPr.nil _ _, hb1⟩
  have e1 : seenOf X = Se.seen X X.length := by unfold seenOf; rw [if_pos hv]
  rw [e1, hv]
  rw [hv] at K1
  have lx := (Rn.check_zero hv).1
  have KL := hid fun W j it h hj => lastWrite_any W a c X j it h hv hj
  obtain ⟨i0, hi, hz0, hz1, hz2⟩ := info_parts seen_info
  have I1 := hid hi
  have I2 := hid hz0
  have I3 := hid hz1
  have I4 := hid hz2
  clear hv e1 h hi hz0 hz1 hz2
  go_enter Try.func45, Try.ntmps45
  go_wp2_with fail
  refine (K1.out).mono ?_
  rintro r w1 ⟨rfl, hb1⟩
  have A0 : Hid (RdAt w w1 (.slice none 0 0) (Se.seen X 0)) := ⟨OwnPr.nil _ _, hb1⟩
  clear hb1 K1
  go_wp2_with fail
  go_loopw [5, 6, 7, 15] (fun v _ _ i wr => ∃ (k : Nat) (V : Value), k ≤ X.length ∧ V = v ∧ i = .int .i64 (k : Int) ∧ Hid (RdAt w wr V (Se.seen X k))) (fun _ _ _ i _ => X.length - (intOf i).toNat)
  case atStart => exact ⟨0, _, Nat.zero_le _, rfl, rfl, A0⟩
  case round =>
    clear A0
    obtain ⟨k, v, hk, rfl, rfl, hA⟩ := hrel
    by_cases hlt : k < X.length
    · obtain ⟨x, hx⟩ : ∃ x, X[k]? = some x := ⟨_, List.getElem?_eq_getElem hlt⟩
      obtain ⟨b, o, rfl, d1, d2, d3⟩ := (H.out.below hA.out.bel) k x hx
      have k0 : (0 : Int) ≤ (k : Int) := by omega
      have k1 : (k : Int) < (X.length : Int) := by omega
      have kc : (k : Int) ≤ (c : Int) := by omega
      have HR := hid (fun h => seen_read hx h)
      have HS := hid (fun h => seen_skip hx h)
      have KL := hid fun W it h => KL.out W k it h (by omega)
      have hlen : (Se.seen X k).length ≤ 200 := by rw [Se.seen_len]; have := Se.rds_len X k; omega
      clear hx
      obtain ⟨ox, ok, oi⟩ := x
      simp only at d1 d2 d3 HR HS
      obtain ⟨L, hL⟩ : ∃ L, L = Se.seen X k := ⟨_, rfl⟩
      rw [← hL] at hA HR HS hlen
      clear hL
      by_cases hk1 : ok = 1
      rotate_left
      · have HF : Hid (Se.seen X (k + 1) = L) := HS.out hk1
        have hkB : (ok == 1) = false := by simpa using hk1
        have A1 : ∀ o1 : Obj, Hid (RdAt w (wr.alloc o1) v L) := fun o1 => hA.out.below (bx _ _)
        clear HR HS hk1 hA
        go_wp2_with fail
        go_roundw
        case rel => exact ⟨k + 1, v, by omega, rfl, by go_num, by rw [HF.out]; exact A1 _⟩
        case measure => simp [intOf]; omega
      · subst hk1
        obtain ⟨z, hz⟩ : ∃ z, z = wrN (wrI X k oi k) := ⟨_, rfl⟩
        have HF : Hid (Se.seen X (k + 1) = L ++ [⟨(k : Int), z⟩]) := by rw [hz]; exact HR.out rfl
        have KL := hid fun W h => KL.out W oi h
        rw [← hz] at KL
        clear hz HR HS
        obtain ⟨W0, hW0⟩ : ∃ W0, W0 = wr.alloc (.cells #[.int .i64 ox, .int .i64 1, .int .i64 oi] 129) := ⟨_, rfl⟩
        have A1 : Hid (ArrAt W0 wr.heap.size #[.int .i64 ox, .int .i64 1, .int .i64 oi] ∧ RdAt w W0 v L) := by rw [hW0]; exact ⟨ArrAt.new wr _ _, hA.out.below (bx _ _)⟩
        clear hA
        go_upto_region 9 with fail
        rw [← hW0]
        clear hW0 d1 d2 d3
        have f2 := A1.out.1.drew.cell (j := 2) (v := .int .i64 oi) rfl
        refine wp_region_any (by kernel_rfl) ?_
        change wpAny _ _ _ _ _ _ _ (World.drew _)
        refine wpAny_take (i := 0) (v := ?tv1) rfl (by kernel_rfl) (by kernel_rfl) (by kernel_rfl) (fun _ _ _ h => h) (Or.inl ⟨by rfl, ?th1⟩) ?tr1
        case th1 => (intro w; go_simp; all_goals (with_reducible rfl))
        simp only [Act.put, List.getElem_toArray, List.getElem_cons_zero, List.setIfInBounds_toArray, List.set_cons_zero, List.set_cons_succ]
        refine wpAny_take (i := 1) (v := ?tv2) rfl (by kernel_rfl) (by kernel_rfl) (by kernel_rfl) (fun _ _ _ h => h) (Or.inl ⟨by rfl, ?th2⟩) ?tr2
        case th2 => (intro w; go_simp; all_goals (with_reducible rfl))
        simp only [Act.put, List.getElem_toArray, List.getElem_cons_zero, List.getElem_cons_succ, List.setIfInBounds_toArray, List.set_cons_zero, List.set_cons_succ]
        refine wpAny_take (i := 2) (v := ?tv3) rfl (by kernel_rfl) (by kernel_rfl) (by kernel_rfl) (fun _ _ _ h => h) (Or.inl ⟨by rfl, ?th3⟩) ?tr3
        case th3 => (intro w; go_simp; all_goals (with_reducible rfl))
        simp only [Act.put, List.getElem_toArray, List.getElem_cons_zero, List.getElem_cons_succ, List.setIfInBounds_toArray, List.set_cons_zero, List.set_cons_succ]
        refine wpAny_take (i := 3) (v := ?tv4) rfl (by kernel_rfl) (by kernel_rfl) (by kernel_rfl) (fun _ _ _ h => h) (Or.inl ⟨by rfl, ?th4⟩) ?tr4
        case th4 => (intro w; go_simp; all_goals (with_reducible rfl))
        simp only [Act.put, List.getElem_toArray, List.getElem_cons_zero, List.getElem_cons_succ, List.setIfInBounds_toArray, List.set_cons_zero, List.set_cons_succ]
        refine wpAny_take (i := 5) (v := ?tv5) rfl (by kernel_rfl) (by kernel_rfl) (by kernel_rfl) (fun _ _ _ h => h) (Or.inl ⟨by rfl, ?th5⟩) ?tr5
        case th5 => (intro w; go_simp; all_goals (with_reducible rfl))
        simp only [Act.put, List.getElem_toArray, List.getElem_cons_zero, List.getElem_cons_succ, List.setIfInBounds_toArray, List.set_cons_zero, List.set_cons_succ]
        refine wpAny_ready (rs := [4, 6]) (by kernel_rfl) (by simp) ?_
        refine AllReady.cons rfl (fun K hK => ?_) (AllReady.cons rfl (fun K hK => ?_) AllReady.nil)
        · go_simp
          refine hK _ _ ?_
          clear hK K
          try simp only [Act.put, List.getElem_toArray, List.getElem_cons_zero, List.getElem_cons_succ, List.setIfInBounds_toArray, List.set_cons_zero, List.set_cons_succ]
          refine wpAny_ready (rs := [6]) (by kernel_rfl) (by simp) ?_
          refine AllReady.cons rfl (fun K hK => ?_) AllReady.nil
          go_simp
          refine hK _ _ ?_
          clear hK K
          try simp only [Act.put, List.getElem_toArray, List.getElem_cons_zero, List.getElem_cons_succ, List.setIfInBounds_toArray, List.set_cons_zero, List.set_cons_succ]
          refine wpAny_ready (rs := [7]) (by kernel_rfl) (by simp) ?_
          refine AllReady.cons rfl (fun K hK => ?_) AllReady.nil
          go_simp
          refine (KL.out _ (H.out.below A1.out.2.bel.drew)).mono ?_
          rintro r w2 ⟨rfl, hb2⟩
          have A2 : Hid (RdAt w w2 v L) := ⟨A1.out.2.out.below (drew_below hb2), below_tr A1.out.2.bel.drew hb2⟩
          clear hb2
          refine hK _ _ ?_
          clear hK K
          try simp only [Act.put, List.getElem_toArray, List.getElem_cons_zero, List.getElem_cons_succ, List.setIfInBounds_toArray, List.set_cons_zero, List.set_cons_succ]
          refine wpAny_take (i := 8) (v := ?tv6) rfl (by kernel_rfl) (by kernel_rfl) (by kernel_rfl) (fun _ _ _ h => h) (Or.inl ⟨by rfl, ?th6⟩) ?tr6
          case th6 => (intro w; go_simp; all_goals (with_reducible rfl))
          simp only [Act.put, List.getElem_toArray, List.getElem_cons_zero, List.getElem_cons_succ, List.setIfInBounds_toArray, List.set_cons_zero, List.set_cons_succ]
          refine wpAny_ready (rs := [9]) (by kernel_rfl) (by simp) ?_
          refine AllReady.cons rfl (fun K hK => ?_) AllReady.nil
          go_simp
          have A3 : ∀ o1 : Obj, Hid (RdAt w (w2.alloc o1) v L) := fun o1 => A2.out.below (bx _ _)
          have N3 : ∀ T, Hid (∀ j u, [Value.int .i64 (k : Int), .int .i64 z][j]? = some u → (w2.alloc (.cells #[.int .i64 (k : Int), .int .i64 z] T)).cell? ((⟨w2.heap.size, 0, none⟩ : Addr).add j) = some u) := fun T => pair_news (ArrAt.new w2 _ T)
          refine hK _ _ ?_
          clear hK K
          try simp only [Act.put, List.getElem_toArray, List.getElem_cons_zero, List.getElem_cons_succ, List.setIfInBounds_toArray, List.set_cons_zero, List.set_cons_succ]
          refine wpAny_ready (rs := [10]) (by kernel_rfl) (by simp) ?_
          refine AllReady.cons rfl (fun K hK => ?_) AllReady.nil
          refine step_append_lies _ (by rfl) _ _ _ (by rfl) w.heap.size 95 i0 (.agg #[.int .i64 0, .int .i64 0]) 2 16 Try.underlying87 I1.out I2.out I3.out I4.out rfl (by omega) v L.length (L.flatMap sc) (by rfl) (A3 _).out.out ⟨w2.heap.size, 0, none⟩ 1 1 (sc ⟨(k : Int), z⟩) (by rfl) rfl (N3 _).out (sc_one _) (by omega) (by unfold maxLen; omega) (by omega) (A3 _).out.bel.size _ rfl ?_
          intro g cap w5 a1 a2 a3 a4
          have A5 : Hid (RdAt w w5 (.slice (some ⟨g, 0, none⟩) (L.length + 1) cap) (L ++ [⟨(k : Int), z⟩])) := ⟨OwnPr.grows a1, (A3 _).out.bel.grown a2 (A3 _).out.bel.size (fun b hb => ((A3 (.cells #[] 0)).out.out.lt b hb).1)⟩
          clear a1 a2 a3 a4 A3 N3
          refine hK _ _ ?_
          clear hK K
          try simp only [Act.put, List.getElem_toArray, List.getElem_cons_zero, List.getElem_cons_succ, List.setIfInBounds_toArray, List.set_cons_zero, List.set_cons_succ]
          refine wpAny_take (i := 11) (v := ?tv7) rfl (by kernel_rfl) (by kernel_rfl) (by kernel_rfl) (fun _ _ _ h => h) (Or.inl ⟨by rfl, ?th7⟩) ?tr7
          case th7 => (intro w; go_simp; all_goals (with_reducible rfl))
          simp only [Act.put, List.getElem_toArray, List.getElem_cons_zero, List.getElem_cons_succ, List.setIfInBounds_toArray, List.set_cons_zero, List.set_cons_succ]
          refine wpAny_done (by kernel_rfl) ?_ _
          go_wp2_with fail
          go_roundw
          case rel => exact ⟨k + 1, _, by omega, rfl, by go_num, by rw [HF.out]; exact A5⟩
          case measure => simp [intOf]; omega
        · go_simp
          refine hK _ _ ?_
          clear hK K
          try simp only [Act.put, List.getElem_toArray, List.getElem_cons_zero, List.getElem_cons_succ, List.setIfInBounds_toArray, List.set_cons_zero, List.set_cons_succ]
          refine wpAny_ready (rs := [4]) (by kernel_rfl) (by simp) ?_
          refine AllReady.cons rfl (fun K hK => ?_) AllReady.nil
          go_simp
          refine hK _ _ ?_
          clear hK K
          try simp only [Act.put, List.getElem_toArray, List.getElem_cons_zero, List.getElem_cons_succ, List.setIfInBounds_toArray, List.set_cons_zero, List.set_cons_succ]
          refine wpAny_ready (rs := [7]) (by kernel_rfl) (by simp) ?_
          refine AllReady.cons rfl (fun K hK => ?_) AllReady.nil
          go_simp
          refine (KL.out _ (H.out.below A1.out.2.bel.drew)).mono ?_
          rintro r w2 ⟨rfl, hb2⟩
          have A2 : Hid (RdAt w w2 v L) := ⟨A1.out.2.out.below (drew_below hb2), below_tr A1.out.2.bel.drew hb2⟩
          clear hb2
          refine hK _ _ ?_
          clear hK K
          try simp only [Act.put, List.getElem_toArray, List.getElem_cons_zero, List.getElem_cons_succ, List.setIfInBounds_toArray, List.set_cons_zero, List.set_cons_succ]
          refine wpAny_take (i := 8) (v := ?tv8) rfl (by kernel_rfl) (by kernel_rfl) (by kernel_rfl) (fun _ _ _ h => h) (Or.inl ⟨by rfl, ?th8⟩) ?tr8
          case th8 => (intro w; go_simp; all_goals (with_reducible rfl))
          simp only [Act.put, List.getElem_toArray, List.getElem_cons_zero, List.getElem_cons_succ, List.setIfInBounds_toArray, List.set_cons_zero, List.set_cons_succ]
          refine wpAny_ready (rs := [9]) (by kernel_rfl) (by simp) ?_
          refine AllReady.cons rfl (fun K hK => ?_) AllReady.nil
          go_simp
          have A3 : ∀ o1 : Obj, Hid (RdAt w (w2.alloc o1) v L) := fun o1 => A2.out.below (bx _ _)
          have N3 : ∀ T, Hid (∀ j u, [Value.int .i64 (k : Int), .int .i64 z][j]? = some u → (w2.alloc (.cells #[.int .i64 (k : Int), .int .i64 z] T)).cell? ((⟨w2.heap.size, 0, none⟩ : Addr).add j) = some u) := fun T => pair_news (ArrAt.new w2 _ T)
          refine hK _ _ ?_
          clear hK K
          try simp only [Act.put, List.getElem_toArray, List.getElem_cons_zero, List.getElem_cons_succ, List.setIfInBounds_toArray, List.set_cons_zero, List.set_cons_succ]
          refine wpAny_ready (rs := [10]) (by kernel_rfl) (by simp) ?_
          refine AllReady.cons rfl (fun K hK => ?_) AllReady.nil
          refine step_append_lies _ (by rfl) _ _ _ (by rfl) w.heap.size 95 i0 (.agg #[.int .i64 0, .int .i64 0]) 2 16 Try.underlying87 I1.out I2.out I3.out I4.out rfl (by omega) v L.length (L.flatMap sc) (by rfl) (A3 _).out.out ⟨w2.heap.size, 0, none⟩ 1 1 (sc ⟨(k : Int), z⟩) (by rfl) rfl (N3 _).out (sc_one _) (by omega) (by unfold maxLen; omega) (by omega) (A3 _).out.bel.size _ rfl ?_
          intro g cap w5 a1 a2 a3 a4
          have A5 : Hid (RdAt w w5 (.slice (some ⟨g, 0, none⟩) (L.length + 1) cap) (L ++ [⟨(k : Int), z⟩])) := ⟨OwnPr.grows a1, (A3 _).out.bel.grown a2 (A3 _).out.bel.size (fun b hb => ((A3 (.cells #[] 0)).out.out.lt b hb).1)⟩
          clear a1 a2 a3 a4 A3 N3
          refine hK _ _ ?_
          clear hK K
          try simp only [Act.put, List.getElem_toArray, List.getElem_cons_zero, List.getElem_cons_succ, List.setIfInBounds_toArray, List.set_cons_zero, List.set_cons_succ]
          refine wpAny_take (i := 11) (v := ?tv9) rfl (by kernel_rfl) (by kernel_rfl) (by kernel_rfl) (fun _ _ _ h => h) (Or.inl ⟨by rfl, ?th9⟩) ?tr9
          case th9 => (intro w; go_simp; all_goals (with_reducible rfl))
          simp only [Act.put, List.getElem_toArray, List.getElem_cons_zero, List.getElem_cons_succ, List.setIfInBounds_toArray, List.set_cons_zero, List.set_cons_succ]
          refine wpAny_done (by kernel_rfl) ?_ _
          go_wp2_with fail
          go_roundw
          case rel => exact ⟨k + 1, _, by omega, rfl, by go_num, by rw [HF.out]; exact A5⟩
          case measure => simp [intOf]; omega
    · obtain rfl : k = X.length := by omega
      have hO : Hid (OwnPr 95 wr w.heap.size v (Se.seen X X.length)) := hA.out.out
      have hB := hid hA.out.bel
      clear hA
      go_wp2_with fail
      go_ret2
      exact ⟨_, rfl, hO.out, hB.out⟩

/-- How all stands while the last writes are gathered. -/
structure LsAt (w W : World) (f : Nat → Int) : Prop where
  res : ArrAt W w.heap.size (iA fun _ => 0)
  arr : ArrAt W (w.heap.size + 1) (iA f)
  bel : Below w.heap.size w W
theorem LsAt.below {w W W' : World} {f : Nat → Int} (h : LsAt w W f) (hb : Below W.heap.size W W') : LsAt w W' f := ⟨h.res.below hb, h.arr.below hb, below_tr h.bel hb⟩
theorem LsAt.lay {w W : World} {f : Nat → Int} (h : LsAt w W f) (t : Nat) (v : Int) : LsAt w (W.setCell ⟨w.heap.size + 1, t, none⟩ (.int .i64 v)) (fun s => if s = t then v else f s) :=
  ⟨h.res.apart (by omega) _ _, by rw [← iA_set f t v]; exact h.arr.put _ _, h.bel.setCell (p := ⟨w.heap.size + 1, t, none⟩) (Nat.le_succ _) _⟩
theorem LsAt.fin {w W : World} {f : Nat → Int} (h : LsAt w W f) : ArrAt (W.setRow w.heap.size (iA f)) w.heap.size (iA f) ∧ Below w.heap.size w (W.setRow w.heap.size (iA f)) := ⟨h.res.row _, Below.row h.bel (Nat.le_refl _) _⟩
def upTo (f : Nat → Int) (k : Nat) : Nat → Int := fun s => if s < k then f s else 0
theorem upTo_next (f : Nat → Int) (k : Nat) : upTo f (k + 1) = fun s => if s = k then f k else upTo f k s := by
  funext s
  unfold upTo
  by_cases e : s = k
  · subst e; rw [if_pos (by omega), if_pos rfl]
  · rw [if_neg e]
    by_cases h : s < k
    · rw [if_pos h, if_pos (by omega)]
    · rw [if_neg h, if_neg (by omega)]
theorem upTo_all (f : Nat → Int) : iA (upTo f 20) = iA f := by
  refine congrArg List.toArray (List.map_congr_left fun t ht => ?_)
  show Value.int .i64 (upTo f 20 t) = _
  unfold upTo
  rw [if_pos (List.mem_range.1 ht)]
attribute [local go_sem ↓] loadI_pre storeI_pre

set_option maxHeartbeats 4000000 in
theorem last_any (w : World) (a : Option Addr) (c : Nat) (X : List Rn.Op) (h : OpAt w a X) (hl : X.length ≤ 9223372036854775807) :
    Calls Try.prog 46 #[.slice a X.length c] w fun e w' => e = .returned (.tuple #[.agg (iA (lastOf X)), .int .i64 (Rn.check X)]) ∧ Below w.heap.size w w' := by
  have H := hid h
  have K1 := hid fun W h => check_any W a c X h hl
  have hz := (zero_of_info twenty_info).1
  have A0 : ∀ T1 T2, Hid (LsAt w ((w.alloc (.cells (iA fun _ => 0) T1)).alloc (.cells (iA fun _ => 0) T2)) (fun _ => 0)) := fun T1 T2 => by
    refine ⟨(ArrAt.new w _ _).below (bx _ _), ?_, bx2 _ _ _⟩
    have := ArrAt.new (w.alloc (.cells (iA fun _ => 0) T1)) (iA fun _ => 0) T2
    rwa [show (w.alloc (.cells (iA fun _ => 0) T1)).heap.size = w.heap.size + 1 by simp] at this
  by_cases hv : Rn.check X = 0
  rotate_left
  · have e1 : lastOf X = fun _ => 0 := by unfold lastOf; rw [if_neg hv]
    rw [e1]
    generalize Rn.check X = v at *
    have hv0 : (v != 0) = true := by simpa using hv
    clear hv e1 h
    go_enter Try.func46, Try.ntmps46
    go_wp2_with fail
    refine (K1.out _ (H.out.below (bx2 _ _ _))).mono ?_
    rintro r w1 ⟨rfl, hb1⟩
    have A1 : Hid (LsAt w w1 (fun _ => 0)) := (A0 _ _).out.below hb1
    have hl := run_loadI A1.out.arr
    have hs := run_storeI (f := fun _ => 0) A1.out.res
    have F := hid A1.out.fin
    clear A0 A1 hb1 K1
    go_wp2_with fail
    exact bodyPost_ret (ArrAt.result2 F.out.1 rfl rfl Try.underlying90 rfl (by rw [iA_size]; exact (zero_of_info twenty_info).2) rfl) rfl ⟨rfl, F.out.2⟩
  have e1 : lastOf X = Se.lstN X := by unfold lastOf; rw [if_pos hv]
  rw [e1, hv]
  rw [hv] at K1
  have lx := (Rn.check_zero hv).1
  have KL := hid fun W it h => lastWrite_any W a c X X.length it h hv (Nat.le_refl _)
  clear hv e1 h
  go_enter Try.func46, Try.ntmps46
  go_wp2_with fail
  refine (K1.out _ (H.out.below (bx2 _ _ _))).mono ?_
  rintro r w1 ⟨rfl, hb1⟩
  have A1 : Hid (LsAt w w1 (upTo (Se.lstN X) 0)) := (A0 _ _).out.below hb1
  clear hb1 K1 A0
  go_wp2_with fail
  go_loopw [6, 13] (fun _ i wr => ∃ k : Nat, k ≤ 20 ∧ i = .int .i64 (k : Int) ∧ Hid (LsAt w wr (upTo (Se.lstN X) k))) (fun _ i _ => 20 - (intOf i).toNat)
  case atStart => exact ⟨0, Nat.zero_le _, rfl, A1⟩
  case round =>
    clear A1
    obtain ⟨k, hk, rfl, hA⟩ := hrel
    by_cases hlt : k < 20
    · have k0 : (0 : Int) ≤ (k : Int) := by omega
      have k1 : (k : Int) < 20 := by omega
      have KL := hid fun W h => KL.out W (k : Int) h
      have HN := hid (upTo_next (Se.lstN X) k)
      obtain ⟨z, hz'⟩ : ∃ z, z = wrN (wrI X X.length (k : Int) X.length) := ⟨_, rfl⟩
      have HN : Hid (upTo (Se.lstN X) (k + 1) = fun s => if s = k then z else upTo (Se.lstN X) k s) := by rw [hz']; exact HN
      rw [← hz'] at KL
      clear hz'
      obtain ⟨f, hf⟩ : ∃ f, f = upTo (Se.lstN X) k := ⟨_, rfl⟩
      rw [← hf] at hA HN
      clear hf
      go_wp2_with fail
      refine (KL.out _ (H.out.below hA.out.bel)).mono ?_
      rintro r w2 ⟨rfl, hb2⟩
      have A2 : Hid (LsAt w w2 f) := hA.out.below hb2
      have A3 : Hid (LsAt w (w2.setCell ⟨w.heap.size + 1, k, none⟩ (.int .i64 z)) (upTo (Se.lstN X) (k + 1))) := by rw [HN.out]; exact A2.out.lay k z
      have sp : w2.cell? ⟨w.heap.size + 1, k, none⟩ = some (.int .i64 (f k)) := A2.out.arr.cell (iA_at f hlt)
      have sf : w2.frozen? ⟨w.heap.size + 1, k, none⟩ = false := A2.out.arr.fz _
      clear hb2 hA HN A2 KL
      go_wp2_with fail
      go_roundw
      case rel => exact ⟨k + 1, by omega, by go_num, A3⟩
      case measure => simp [intOf]; omega
    · obtain rfl : k = 20 := by omega
      have hl := run_loadI hA.out.arr
      have hs := run_storeI (f := upTo (Se.lstN X) 20) hA.out.res
      have F := hid hA.out.fin
      rw [upTo_all] at hl hs F
      clear hA
      go_wp2_with fail
      exact bodyPost_ret (ArrAt.result2 F.out.1 rfl rfl Try.underlying90 rfl (by rw [iA_size]; exact (zero_of_info twenty_info).2) rfl) rfl ⟨rfl, F.out.2⟩
end Go.Proofs.Ytlalpahfoafhoab.PSee
