/- quirref.Alike, walked: it answers what the plain words say, and nothing that was there has turned. Conditions: the runs are right; the capacities are no less than the lengths. -/
import Derived.Test.YtlalpahfoafhoabSeeRRd
import Derived.Test.YtlalpahfoafhoabSeeSmo
import Derived.Test.YtlalpahfoafhoabSeeIxs
import Derived.Deep.CutRange
import Derived.Deep.RegionHeld3
namespace Go.Proofs.Ytlalpahfoafhoab.PSee
open Go Go.RowKit PPool PGraph PRun
set_option maxRecDepth 100000

/-- The test that IndexFunc is handed: has this Read the name of the operation at place p? -/
def sameAt (X Y : List Rn.Op) (p : Nat) (e : Gr.Ed) : Bool := decide (Se.nm X p = Se.nm Y e.f.toNat)
theorem ixS_spec (P : Gr.Ed → Bool) (L : List Gr.Ed) : (ixS P L = -1 ∧ ∀ x ∈ L, P x = false) ∨ ∃ k x, ixS P L = ((k : Nat) : Int) ∧ L[k]? = some x ∧ P x = true := by
  unfold ixS
  by_cases h : L.findIdx P = L.length
  · left
    rw [if_pos h]
    refine ⟨rfl, fun x hx => ?_⟩
    have := (List.findIdx_eq_length.1 h) x hx
    simpa using this
  · right
    rw [if_neg h]
    have hlt : L.findIdx P < L.length := by have := List.findIdx_le_length (p := P) (xs := L); omega
    exact ⟨_, _, rfl, List.getElem?_eq_getElem hlt, List.findIdx_getElem (w := hlt)⟩
theorem read_of {X : List Rn.Op} {k : Nat} (hk : k < (Se.seen X X.length).length) :
    ∃ p, p ∈ Se.rds X X.length ∧ (Se.seen X X.length)[k]? = some ⟨((p : Nat) : Int), wrN (Se.frm X p)⟩ ∧ (Se.fmap X X.length)[k]? = some (Se.nm X p, Se.nmO X (Se.frm X p)) ∧ p < X.length ∧ ∀ q, Se.frm X p = some q → q < X.length := by
  rw [Se.seen_len] at hk
  obtain ⟨p, hp⟩ : ∃ p, (Se.rds X X.length)[k]? = some p := ⟨_, List.getElem?_eq_getElem hk⟩
  have hm := (Se.rds_mem.1 (List.mem_of_getElem? hp)).1
  refine ⟨p, List.mem_of_getElem? hp, ?_, ?_, hm, fun q hq => ?_⟩
  · unfold Se.seen; rw [List.getElem?_map, hp]; rfl
  · unfold Se.fmap; rw [List.getElem?_map, hp]; rfl
  · unfold Se.frm at hq
    split at hq
    · have := Se.wrI_lt hq; omega
    · cases hq
theorem inR_none {X Y : List Rn.Op} {p : Nat} {d : Gr.Ed} (h : ∀ x ∈ Se.seen Y Y.length, sameAt X Y p x = false) : Se.inR Y (Se.nm X p, d) = false := by
  apply Bool.eq_false_iff.2
  intro hi
  obtain ⟨e, he, heq⟩ := List.any_eq_true.1 hi
  obtain ⟨q, hq, rfl⟩ := List.mem_map.1 he
  have heq := of_decide_eq_true heq
  injection heq with h1 _
  have := h ⟨(q : Int), wrN (Se.frm Y q)⟩ (List.mem_map.2 ⟨q, hq, rfl⟩)
  unfold sameAt at this
  simp only [Int.toNat_natCast] at this
  exact absurd h1 (of_decide_eq_false this)
theorem inR_some {X Y : List Rn.Op} (hY : ∀ o ∈ Y, 0 ≤ o.x) {p q : Nat} {d : Gr.Ed} (hq : q ∈ Se.rds Y Y.length) (hn : Se.nm X p = Se.nm Y q) : Se.inR Y (Se.nm X p, d) = decide (d = Se.nmO Y (Se.frm Y q)) := by
  apply Bool.eq_iff_iff.2
  rw [decide_eq_true_eq]
  constructor
  · intro hi
    obtain ⟨e, he, heq⟩ := List.any_eq_true.1 hi
    obtain ⟨q', hq', rfl⟩ := List.mem_map.1 he
    have heq := of_decide_eq_true heq
    injection heq with h1 h2
    have := Se.nm_inj hY (Se.rds_mem.1 hq').1 (Se.rds_mem.1 hq).1 (h1.symm.trans hn)
    rw [h2, this]
  · rintro rfl
    exact List.any_eq_true.2 ⟨_, List.mem_map.2 ⟨q, hq, rfl⟩, decide_eq_true (by rw [hn])⟩
theorem alike_len {X Y : List Rn.Op} (h : ¬ (Se.seen X X.length).length = (Se.seen Y Y.length).length) : Se.alike X Y = false := by
  rw [Se.seen_len, Se.seen_len] at h
  unfold Se.alike; rw [decide_eq_false h]; rfl
theorem alike_in {X Y : List Rn.Op} {e : Gr.Ed × Gr.Ed} {i : Nat} (he : (Se.fmap X X.length)[i]? = some e) (h : Se.inR Y e = false) : Se.alike X Y = false := by
  unfold Se.alike
  have : (Se.fmap X X.length).all (Se.inR Y) = false := Bool.eq_false_iff.2 fun ha => by
    have := List.all_eq_true.1 ha e (List.mem_of_getElem? he)
    rw [h] at this; cases this
  rw [this]; simp
theorem alike_lst {X Y : List Rn.Op} {i : Nat} (hi : i < 20) (h : decide (Se.lstM X i = Se.lstM Y i) = false) : Se.alike X Y = false := by
  unfold Se.alike
  have : Se.sameL X Y = false := Bool.eq_false_iff.2 fun ha => by
    have := List.all_eq_true.1 ha i (List.mem_range.2 hi)
    rw [h] at this; cases this
  rw [this]; simp
theorem alike_all {X Y : List Rn.Op} (h1 : (Se.seen X X.length).length = (Se.seen Y Y.length).length) (h2 : ∀ i, i < 20 → Se.lstM X i = Se.lstM Y i) (h3 : ∀ (i : Nat) (e : Gr.Ed × Gr.Ed), (Se.fmap X X.length)[i]? = some e → Se.inR Y e = true) : Se.alike X Y = true := by
  rw [Se.seen_len, Se.seen_len] at h1
  unfold Se.alike
  have e2 : Se.sameL X Y = true := List.all_eq_true.2 fun i hi => decide_eq_true (h2 i (List.mem_range.1 hi))
  have e3 : (Se.fmap X X.length).all (Se.inR Y) = true := List.all_eq_true.2 fun e he => by
    obtain ⟨i, hi⟩ := List.getElem?_of_mem he
    exact h3 i e hi
  rw [decide_eq_true h1, e2, e3]; rfl

set_option maxHeartbeats 1000000 in
theorem closure_any (w : World) (ba bs bb : Nat) (a1 a2 : Option Addr) (c1 c2 : Nat) (X Y : List Rn.Op) (p q : Nat) (z : Int) (h1 : OpAt w a1 X) (h2 : OpAt w a2 Y) (hv1 : Rn.check X = 0) (hv2 : Rn.check Y = 0) (hcap1 : X.length ≤ c1) (hcap2 : Y.length ≤ c2)
    (ha : w.cell? ⟨ba, 0, none⟩ = some (.slice a1 X.length c1)) (hs : w.cell? ⟨bs, 0, none⟩ = some (.int .i64 (p : Int))) (hb : w.cell? ⟨bb, 0, none⟩ = some (.slice a2 Y.length c2)) (hp : p < X.length) (hq : q < Y.length) :
    Calls Try.prog 97 #[.agg #[.int .i64 (q : Int), .int .i64 z], .pointer (some ⟨ba, 0, none⟩), .pointer (some ⟨bs, 0, none⟩), .pointer (some ⟨bb, 0, none⟩)] w fun x w' => x = .returned (.bool (decide (Se.nm X p = Se.nm Y q))) ∧ Below w.heap.size w w' := by
  have KS := hid fun W h1 h2 => sameOp_any W a1 a2 c1 c2 X Y (some p) (some q) h1 h2 hv1 hv2 hcap1 hcap2 (fun _ h => by injection h with h; omega) (fun _ h => by injection h with h; omega)
  have KS : Hid (∀ W (_ : OpAt W a1 X) (_ : OpAt W a2 Y), Calls Try.prog 98 #[.slice a1 X.length c1, .int .i64 (p : Int), .slice a2 Y.length c2, .int .i64 (q : Int)] W fun e w' => e = .returned (.bool (decide (Se.nm X p = Se.nm Y q))) ∧ Below W.heap.size W w') := KS
  have H1 := hid h1
  have H2 := hid h2
  generalize decide (Se.nm X p = Se.nm Y q) = D at *
  have e1 : ∀ o1 : Obj, (w.alloc o1).cell? ⟨ba, 0, none⟩ = some (.slice a1 X.length c1) := fun o1 => keep1 (bx w o1) ha
  have e2 : ∀ o1 : Obj, (w.alloc o1).cell? ⟨bs, 0, none⟩ = some (.int .i64 (p : Int)) := fun o1 => keep1 (bx w o1) hs
  have e3 : ∀ o1 : Obj, (w.alloc o1).cell? ⟨bb, 0, none⟩ = some (.slice a2 Y.length c2) := fun o1 => keep1 (bx w o1) hb
  clear ha hs hb h1 h2 hp hq
  go_enter Try.func97, Try.ntmps97
  go_wp2_with fail
  refine (KS.out _ (H1.out.below (bx _ _)) (H2.out.below (bx _ _))).mono ?_
  rintro r w1 ⟨rfl, hb1⟩
  have HB := hid (below_tr (bx _ _) hb1)
  clear hb1 e1 e2 e3
  go_wp2_with fail
  go_ret
  exact ⟨rfl, HB.out⟩

/-- How all stands while the Reads are looked at. -/
structure RaAt (w W : World) (a1 a2 : Option Addr) (c1 c2 : Nat) (X Y : List Rn.Op) (xa ya : Option Addr) : Prop where
  b1 : ArrAt W w.heap.size #[.slice a1 X.length c1]
  b2 : ArrAt W (w.heap.size + 1) #[.slice a2 Y.length c2]
  px : PgAt W xa (Se.seen X X.length)
  py : PgAt W ya (Se.seen Y Y.length)
  bel : Below w.heap.size w W
theorem RaAt.below {w W W' : World} {a1 a2 : Option Addr} {c1 c2 : Nat} {X Y : List Rn.Op} {xa ya : Option Addr} (h : RaAt w W a1 a2 c1 c2 X Y xa ya) (hb : Below W.heap.size W W') : RaAt w W' a1 a2 c1 c2 X Y xa ya :=
  ⟨h.b1.below hb, h.b2.below hb, h.px.below hb, h.py.below hb, below_tr h.bel hb⟩
attribute [local go_sem ↓] loadI_pre storeI_pre

set_option maxHeartbeats 16000000 in
theorem ralike_any (w : World) (a1 a2 : Option Addr) (c1 c2 : Nat) (X Y : List Rn.Op) (h1 : OpAt w a1 X) (h2 : OpAt w a2 Y) (hv1 : Rn.check X = 0) (hv2 : Rn.check Y = 0) (hcap1 : X.length ≤ c1) (hcap2 : Y.length ≤ c2) :
    Calls Try.prog 44 #[.slice a1 X.length c1, .slice a2 Y.length c2] w fun e w' => e = .returned (.bool (Se.alike X Y)) ∧ Below w.heap.size w w' := by
  obtain ⟨Z, hZ⟩ : ∃ Z, Z = Se.alike X Y := ⟨_, rfl⟩
  rw [← hZ]
  have HZ := hid hZ
  have lx := (Rn.check_zero hv1).1
  have ly := (Rn.check_zero hv2).1
  have gY : Hid (∀ o ∈ Y, 0 ≤ o.x) := fun o ho => (Rn.good_mem hv2 ho).x0
  have H1 := hid h1
  have H2 := hid h2
  have HV1 := hid hv1
  have HV2 := hid hv2
  have hzI := (zero_of_info twenty_info).1
  have KR1 := hid fun W h => rreads_any W a1 c1 X h hv1 hcap1
  have KR2 := hid fun W h => rreads_any W a2 c2 Y h hv2 hcap2
  have KL1 := hid fun W h => rlast_any W a1 c1 X h hv1
  have KL2 := hid fun W h => rlast_any W a2 c2 Y h hv2
  have hxl : (Se.seen X X.length).length ≤ 200 := by rw [Se.seen_len]; have := Se.rds_len X X.length; omega
  have hyl : (Se.seen Y Y.length).length ≤ 200 := by rw [Se.seen_len]; have := Se.rds_len Y Y.length; omega
  obtain ⟨W0, hW0⟩ : ∃ W0, W0 = (w.alloc (.cells #[.slice a1 X.length c1] 63)).alloc (.cells #[.slice a2 Y.length c2] 63) := ⟨_, rfl⟩
  have A0 : Hid (ArrAt W0 w.heap.size #[.slice a1 X.length c1] ∧ ArrAt W0 (w.heap.size + 1) #[.slice a2 Y.length c2] ∧ Below w.heap.size w W0) := by
    subst hW0
    refine ⟨(ArrAt.new w _ _).below (bx _ _), ?_, bx2 _ _ _⟩
    have := ArrAt.new (w.alloc (.cells #[.slice a1 X.length c1] 63)) #[.slice a2 Y.length c2] 63
    rwa [show (w.alloc (.cells #[.slice a1 X.length c1] 63)).heap.size = w.heap.size + 1 by simp] at this
  have SB : Hid (∀ W, Below W0.heap.size W0 W → W.cell? ⟨w.heap.size, 0, none⟩ = some (.slice a1 X.length c1) ∧ W.cell? ⟨w.heap.size + 1, 0, none⟩ = some (.slice a2 Y.length c2)) := fun W hW => ⟨(A0.out.1.below hW).cell rfl, (A0.out.2.1.below hW).cell rfl⟩
  have BD : Below W0.heap.size W0 W0.drew := (Below.refl _ _).drew
  clear hZ h1 h2 hv1 hv2
  go_enter Try.func44, Try.ntmps44
  go_upto_region 1 with fail
  rw [← hW0]
  clear hW0
  refine wp_region_held_drew (S := (fun W => W.cell? ⟨w.heap.size, 0, none⟩ = some (.slice a1 X.length c1) ∧ W.cell? ⟨w.heap.size + 1, 0, none⟩ = some (.slice a2 Y.length c2))) (by kernel_rfl) (SB.out _ BD) (fun hHeld => ?_)
  refine wpAnyH_take (i := 0) (v := ?tv1) rfl (by kernel_rfl) (by kernel_rfl) (by kernel_rfl) (fun _ _ _ h => h) (Or.inl ⟨by rfl, ?th1⟩) (by assumption) ?tr1
  case th1 => (intro w hSw; (try dsimp only at hSw); go_simp; all_goals (with_reducible rfl))
  simp only [Act.put, List.getElem_toArray, List.getElem_cons_zero, List.setIfInBounds_toArray, List.set_cons_zero, List.set_cons_succ]
  refine wpAnyH_take (i := 2) (v := ?tv2) rfl (by kernel_rfl) (by kernel_rfl) (by kernel_rfl) (fun _ _ _ h => h) (Or.inl ⟨by rfl, ?th2⟩) (by assumption) ?tr2
  case th2 => (intro w hSw; (try dsimp only at hSw); go_simp; all_goals (with_reducible rfl))
  simp only [Act.put, List.getElem_toArray, List.getElem_cons_zero, List.getElem_cons_succ, List.setIfInBounds_toArray, List.set_cons_zero, List.set_cons_succ]
  refine wpAnyH_ready (rs := [1]) (by kernel_rfl) (by simp) ?_
  refine AllReadyH.cons rfl (fun K hK => ?_) AllReadyH.nil
  go_simp
  refine (KR1.out _ (H1.out.below (below_tr A0.out.2.2 BD))).mono ?_
  rintro r w5 ⟨v5, rfl, ho5, hb5⟩
  have B5 : Below W0.heap.size W0 w5 := below_tr BD hb5
  obtain ⟨xa, xc, rfl, hp5, -⟩ := ho5.at_
  clear hb5 ho5
  refine hK.out _ _ (SB.out _ B5) (fun hHeld => ?_)
  clear hK K
  try simp only [Act.put, List.getElem_toArray, List.getElem_cons_zero, List.getElem_cons_succ, List.setIfInBounds_toArray, List.set_cons_zero, List.set_cons_succ]
  refine wpAnyH_ready (rs := [3]) (by kernel_rfl) (by simp) ?_
  refine AllReadyH.cons rfl (fun K hK => ?_) AllReadyH.nil
  go_simp
  refine (KR2.out _ (H2.out.below (below_tr A0.out.2.2 B5))).mono ?_
  rintro r w6 ⟨v6, rfl, ho6, hb6⟩
  have B6 : Below W0.heap.size W0 w6 := below_tr B5 hb6
  have hp6 := hp5.below hb6
  obtain ⟨ya, yc, rfl, hp7, -⟩ := ho6.at_
  clear hb6 ho6
  refine hK.out _ _ (SB.out _ B6) (fun hHeld => ?_)
  clear hK K
  try simp only [Act.put, List.getElem_toArray, List.getElem_cons_zero, List.getElem_cons_succ, List.setIfInBounds_toArray, List.set_cons_zero, List.set_cons_succ]
  refine wpAnyH_take (i := 4) (v := ?tv3) rfl (by kernel_rfl) (by kernel_rfl) (by kernel_rfl) (fun _ _ _ h => h) (Or.inl ⟨by rfl, ?th3⟩) (by assumption) ?tr3
  case th3 => (intro w hSw; (try dsimp only at hSw); go_simp; all_goals (with_reducible rfl))
  simp only [Act.put, List.getElem_toArray, List.getElem_cons_zero, List.getElem_cons_succ, List.setIfInBounds_toArray, List.set_cons_zero, List.set_cons_succ]
  refine wpAnyH_take (i := 5) (v := ?tv4) rfl (by kernel_rfl) (by kernel_rfl) (by kernel_rfl) (fun _ _ _ h => h) (Or.inl ⟨by rfl, ?th4⟩) (by assumption) ?tr4
  case th4 => (intro w hSw; (try dsimp only at hSw); go_simp; all_goals (with_reducible rfl))
  simp only [Act.put, List.getElem_toArray, List.getElem_cons_zero, List.getElem_cons_succ, List.setIfInBounds_toArray, List.set_cons_zero, List.set_cons_succ]
  refine wpAnyH_done (by kernel_rfl) ?_ _
  all_goals
    have A6 : Hid (RaAt w w6 a1 a2 c1 c2 X Y xa ya) := ⟨A0.out.1.below B6, A0.out.2.1.below B6, hp6, hp7, below_tr A0.out.2.2 B6⟩
    clear A0 SB BD B5 B6 hp5 hp6 hp7 KR1 KR2
    by_cases hlen : (Se.seen X X.length).length = (Se.seen Y Y.length).length
    rotate_left
    · have HF : Hid (Z = false) := HZ.out.trans (alike_len hlen)
      have hlB : (((Se.seen X X.length).length : Int) != ((Se.seen Y Y.length).length : Int)) = true := by simp; omega
      clear hlen
      go_wp2_with fail
      go_ret
      exact ⟨by rw [HF.out]; rfl, A6.out.bel⟩
    have hlB : (((Se.seen X X.length).length : Int) != ((Se.seen Y Y.length).length : Int)) = false := by simp; omega
    have HLn := hid hlen
    clear hlen
    go_wp2_with fail
    go_loopw [8, 9, 24] (fun _ _ i wr => ∃ k : Nat, k ≤ (Se.seen X X.length).length ∧ i = .int .i64 (k : Int) ∧ Hid (∀ (j : Nat) (e : Gr.Ed × Gr.Ed), j < k → (Se.fmap X X.length)[j]? = some e → Se.inR Y e = true) ∧ Hid (RaAt w wr a1 a2 c1 c2 X Y xa ya)) (fun _ _ i _ => (Se.seen X X.length).length - (intOf i).toNat)
    case atStart => exact ⟨0, Nat.zero_le _, rfl, fun j e hj => by omega, A6⟩
    case round =>
      clear A6
      obtain ⟨k, hk, rfl, hD, hA⟩ := hrel
      by_cases hlt : k < (Se.seen X X.length).length
      · have k0 : (0 : Int) ≤ (k : Int) := by omega
        have k1 : (k : Int) < ((Se.seen X X.length).length : Int) := by omega
        obtain ⟨p, hpm, r1, r2, r3, r4⟩ := read_of hlt
        obtain ⟨b1, o1, rfl, d1, d2⟩ := hA.out.px k _ r1
        obtain ⟨M, hM⟩ : ∃ M, M = wr.heap.size := ⟨_, rfl⟩
        obtain ⟨z, hz⟩ : ∃ z, z = wrN (Se.frm X p) := ⟨_, rfl⟩
        rw [← hz] at d2
        simp only at d1
        obtain ⟨W0, hW0⟩ : ∃ W0, W0 = wr.alloc (.cells #[.int .i64 (p : Int), .int .i64 z] 95) := ⟨_, rfl⟩
        have A1 : Hid (ArrAt W0 M #[.int .i64 (p : Int), .int .i64 z] ∧ RaAt w W0 a1 a2 c1 c2 X Y (some ⟨b1, o1, none⟩) ya) := by rw [hW0, hM]; exact ⟨ArrAt.new wr _ _, hA.out.below (bx _ _)⟩
        have KI := hid (idxS_any W0 ya yc (Se.seen Y Y.length) 97 #[.pointer (some ⟨w.heap.size, 0, none⟩), .pointer (some ⟨M, 0, none⟩), .pointer (some ⟨w.heap.size + 1, 0, none⟩)] (sameAt X Y p) (fun _ _ => rfl) (fun W' e he hb' => by
          obtain ⟨q, hq, rfl⟩ := List.mem_map.1 he
          have hR := A1.out.2.below hb'
          exact closure_any W' w.heap.size M (w.heap.size + 1) a1 a2 c1 c2 X Y p q (wrN (Se.frm Y q)) (H1.out.below hR.bel) (H2.out.below hR.bel) HV1.out HV2.out hcap1 hcap2 (hR.b1.cell rfl) ((A1.out.1.below hb').cell rfl) (hR.b2.cell rfl) r3 (Se.rds_mem.1 hq).1) A1.out.2.py (by omega))
        have hspec := ixS_spec (sameAt X Y p) (Se.seen Y Y.length)
        obtain ⟨J, hJ⟩ : ∃ J, J = ixS (sameAt X Y p) (Se.seen Y Y.length) := ⟨_, rfl⟩
        rw [← hJ] at KI hspec
        have R2 := hid r2
        have HSp := hid hspec
        have R4 := hid r4
        have HZn := hid hz
        clear hA hJ hspec r1 r2 r4 hz hpm
        go_upto_region 7 with fail
        rw [← hW0, ← hM]
        clear hW0 hM d1 d2
        go_wp2_with fail
        refine (KI.out).mono ?_
        rintro r ws ⟨rfl, hbs⟩
        have A2 : Hid (ArrAt ws M #[.int .i64 (p : Int), .int .i64 z] ∧ RaAt w ws a1 a2 c1 c2 X Y (some ⟨b1, o1, none⟩) ya) := ⟨A1.out.1.below hbs, A1.out.2.below hbs⟩
        have BD : Below ws.heap.size ws ws.drew := (Below.refl _ _).drew
        clear hbs A1 KI
        rcases HSp.out with ⟨hJ, hnone⟩ | ⟨j, y, hJ, hy, hP⟩
        · subst hJ
          have HF : Hid (Z = false) := HZ.out.trans (alike_in R2.out (inR_none hnone))
          have SB : Hid (∀ W, Below ws.heap.size ws W → True) := fun _ _ => trivial
          clear hnone HSp hD R2 R4
          go_upto_region 8 with fail
          refine wp_region_held_drew (S := (fun _ => True)) (by kernel_rfl) (SB.out _ BD) (fun hHeld => ?_)
          refine wpAnyH_take (i := 0) (v := ?tv5) rfl (by kernel_rfl) (by kernel_rfl) (by kernel_rfl) (fun _ _ _ h => h) (Or.inl ⟨by rfl, ?th5⟩) (by assumption) ?tr5
          case th5 => (intro w hSw; (try dsimp only at hSw); go_simp; all_goals (with_reducible rfl))
          simp only [Act.put, List.getElem_toArray, List.getElem_cons_zero, List.setIfInBounds_toArray, List.set_cons_zero, List.set_cons_succ]
          refine wpAnyH_take (i := 1) (v := ?tv6) rfl (by kernel_rfl) (by kernel_rfl) (by kernel_rfl) (fun _ _ _ h => h) (Or.inl ⟨by rfl, ?th6⟩) (by assumption) ?tr6
          case th6 => (intro w hSw; (try dsimp only at hSw); go_simp; all_goals (with_reducible rfl))
          simp only [Act.put, List.getElem_toArray, List.getElem_cons_zero, List.getElem_cons_succ, List.setIfInBounds_toArray, List.set_cons_zero, List.set_cons_succ]
          refine wpAnyH_take (i := 2) (v := ?tv7) rfl (by kernel_rfl) (by kernel_rfl) (by kernel_rfl) (fun _ _ _ h => h) (Or.inl ⟨by rfl, ?th7⟩) (by assumption) ?tr7
          case th7 => (intro w hSw; (try dsimp only at hSw); go_simp; all_goals (with_reducible rfl))
          simp only [Act.put, List.getElem_toArray, List.getElem_cons_zero, List.getElem_cons_succ, List.setIfInBounds_toArray, List.set_cons_zero, List.set_cons_succ]
          refine wpAnyH_take (i := 3) (v := undef) rfl (by kernel_rfl) (by kernel_rfl) (by kernel_rfl) (fun _ _ _ h => h) (Or.inr ⟨by rfl, rfl⟩) (by assumption) ?_
          try simp only [Act.put, List.getElem_toArray, List.getElem_cons_zero, List.getElem_cons_succ, List.setIfInBounds_toArray, List.set_cons_zero, List.set_cons_succ]
          refine wpAnyH_take (i := 4) (v := undef) rfl (by kernel_rfl) (by kernel_rfl) (by kernel_rfl) (fun _ _ _ h => h) (Or.inr ⟨by rfl, rfl⟩) (by assumption) ?_
          try simp only [Act.put, List.getElem_toArray, List.getElem_cons_zero, List.getElem_cons_succ, List.setIfInBounds_toArray, List.set_cons_zero, List.set_cons_succ]
          refine wpAnyH_take (i := 5) (v := undef) rfl (by kernel_rfl) (by kernel_rfl) (by kernel_rfl) (fun _ _ _ h => h) (Or.inr ⟨by rfl, rfl⟩) (by assumption) ?_
          try simp only [Act.put, List.getElem_toArray, List.getElem_cons_zero, List.getElem_cons_succ, List.setIfInBounds_toArray, List.set_cons_zero, List.set_cons_succ]
          refine wpAnyH_take (i := 6) (v := undef) rfl (by kernel_rfl) (by kernel_rfl) (by kernel_rfl) (fun _ _ _ h => h) (Or.inr ⟨by rfl, rfl⟩) (by assumption) ?_
          try simp only [Act.put, List.getElem_toArray, List.getElem_cons_zero, List.getElem_cons_succ, List.setIfInBounds_toArray, List.set_cons_zero, List.set_cons_succ]
          refine wpAnyH_take (i := 7) (v := undef) rfl (by kernel_rfl) (by kernel_rfl) (by kernel_rfl) (fun _ _ _ h => h) (Or.inr ⟨by rfl, rfl⟩) (by assumption) ?_
          try simp only [Act.put, List.getElem_toArray, List.getElem_cons_zero, List.getElem_cons_succ, List.setIfInBounds_toArray, List.set_cons_zero, List.set_cons_succ]
          refine wpAnyH_take (i := 8) (v := undef) rfl (by kernel_rfl) (by kernel_rfl) (by kernel_rfl) (fun _ _ _ h => h) (Or.inr ⟨by rfl, rfl⟩) (by assumption) ?_
          try simp only [Act.put, List.getElem_toArray, List.getElem_cons_zero, List.getElem_cons_succ, List.setIfInBounds_toArray, List.set_cons_zero, List.set_cons_succ]
          refine wpAnyH_take (i := 9) (v := undef) rfl (by kernel_rfl) (by kernel_rfl) (by kernel_rfl) (fun _ _ _ h => h) (Or.inr ⟨by rfl, rfl⟩) (by assumption) ?_
          try simp only [Act.put, List.getElem_toArray, List.getElem_cons_zero, List.getElem_cons_succ, List.setIfInBounds_toArray, List.set_cons_zero, List.set_cons_succ]
          refine wpAnyH_take (i := 10) (v := undef) rfl (by kernel_rfl) (by kernel_rfl) (by kernel_rfl) (fun _ _ _ h => h) (Or.inr ⟨by rfl, rfl⟩) (by assumption) ?_
          try simp only [Act.put, List.getElem_toArray, List.getElem_cons_zero, List.getElem_cons_succ, List.setIfInBounds_toArray, List.set_cons_zero, List.set_cons_succ]
          refine wpAnyH_take (i := 11) (v := undef) rfl (by kernel_rfl) (by kernel_rfl) (by kernel_rfl) (fun _ _ _ h => h) (Or.inr ⟨by rfl, rfl⟩) (by assumption) ?_
          try simp only [Act.put, List.getElem_toArray, List.getElem_cons_zero, List.getElem_cons_succ, List.setIfInBounds_toArray, List.set_cons_zero, List.set_cons_succ]
          refine wpAnyH_take (i := 12) (v := undef) rfl (by kernel_rfl) (by kernel_rfl) (by kernel_rfl) (fun _ _ _ h => h) (Or.inr ⟨by rfl, rfl⟩) (by assumption) ?_
          try simp only [Act.put, List.getElem_toArray, List.getElem_cons_zero, List.getElem_cons_succ, List.setIfInBounds_toArray, List.set_cons_zero, List.set_cons_succ]
          refine wpAnyH_take (i := 13) (v := undef) rfl (by kernel_rfl) (by kernel_rfl) (by kernel_rfl) (fun _ _ _ h => h) (Or.inr ⟨by rfl, rfl⟩) (by assumption) ?_
          try simp only [Act.put, List.getElem_toArray, List.getElem_cons_zero, List.getElem_cons_succ, List.setIfInBounds_toArray, List.set_cons_zero, List.set_cons_succ]
          refine wpAnyH_take (i := 14) (v := ?tv8) rfl (by kernel_rfl) (by kernel_rfl) (by kernel_rfl) (fun _ _ _ h => h) (Or.inl ⟨by rfl, ?th8⟩) (by assumption) ?tr8
          case th8 => (intro w hSw; (try dsimp only at hSw); go_simp; all_goals (with_reducible rfl))
          simp only [Act.put, List.getElem_toArray, List.getElem_cons_zero, List.getElem_cons_succ, List.setIfInBounds_toArray, List.set_cons_zero, List.set_cons_succ]
          refine wpAnyH_done (by kernel_rfl) ?_ _
          go_wp2_with fail
          go_ret
          exact ⟨by rw [HF.out]; rfl, below_tr A2.out.2.bel BD⟩
        · subst hJ
          obtain ⟨q, hqm, s1, _, s3, s4⟩ := read_of (X := Y) (k := j) (List.getElem?_eq_some_iff.1 hy).1
          rw [hy] at s1
          injection s1 with s1
          subst s1
          obtain ⟨b2, o2, rfl, d3, d4⟩ := A2.out.2.py j _ hy
          have hnm : Se.nm X p = Se.nm Y q := by
            unfold sameAt at hP
            simp only [Int.toNat_natCast] at hP
            exact of_decide_eq_true hP
          have hin := inR_some (d := Se.nmO X (Se.frm X p)) gY.out hqm hnm
          have j0 : (0 : Int) ≤ (j : Int) := by omega
          have jn : decide ((j : Int) < 0) = false := decide_eq_false (by omega)
          have j1 : (j : Int) < ((Se.seen Y Y.length).length : Int) := by have := (List.getElem?_eq_some_iff.1 hy).1; omega
          have KS := hid fun W (hW : Below ws.heap.size ws W) => sameOp_any W a1 a2 c1 c2 X Y (Se.frm X p) (Se.frm Y q) (H1.out.below (A2.out.2.below hW).bel) (H2.out.below (A2.out.2.below hW).bel) HV1.out HV2.out hcap1 hcap2 R4.out s4
          obtain ⟨z2, hz2⟩ : ∃ z, z = wrN (Se.frm Y q) := ⟨_, rfl⟩
          obtain ⟨D, hDe⟩ : ∃ D, D = decide (Se.nmO X (Se.frm X p) = Se.nmO Y (Se.frm Y q)) := ⟨_, rfl⟩
          rw [← HZn.out, ← hz2, ← hDe] at KS
          rw [← hDe] at hin
          rw [← hz2] at d4
          have HIn := hid hin
          have SB : Hid (∀ W, Below ws.heap.size ws W → W.cell? ⟨w.heap.size, 0, none⟩ = some (.slice a1 X.length c1) ∧ W.cell? ⟨w.heap.size + 1, 0, none⟩ = some (.slice a2 Y.length c2) ∧ W.cell? ⟨M, 1, none⟩ = some (.int .i64 z) ∧ W.cell? ⟨b2, o2 + j * 2 + 1, none⟩ = some (.int .i64 z2)) := fun W hW => ⟨(A2.out.2.below hW).b1.cell rfl, (A2.out.2.below hW).b2.cell rfl, (A2.out.1.below hW).cell rfl, keep1 hW d4⟩
          clear HSp hy hP hqm s3 s4 hnm hin hz2 hDe d3 d4
          go_upto_region 8 with fail
          refine wp_region_held_drew (S := (fun W => W.cell? ⟨w.heap.size, 0, none⟩ = some (.slice a1 X.length c1) ∧ W.cell? ⟨w.heap.size + 1, 0, none⟩ = some (.slice a2 Y.length c2) ∧ W.cell? ⟨M, 1, none⟩ = some (.int .i64 z) ∧ W.cell? ⟨b2, o2 + j * 2 + 1, none⟩ = some (.int .i64 z2))) (by kernel_rfl) (SB.out _ BD) (fun hHeld => ?_)
          refine wpAnyH_take (i := 0) (v := ?tv9) rfl (by kernel_rfl) (by kernel_rfl) (by kernel_rfl) (fun _ _ _ h => h) (Or.inl ⟨by rfl, ?th9⟩) (by assumption) ?tr9
          case th9 => (intro w hSw; (try dsimp only at hSw); go_simp; all_goals (with_reducible rfl))
          simp only [Act.put, List.getElem_toArray, List.getElem_cons_zero, List.setIfInBounds_toArray, List.set_cons_zero, List.set_cons_succ]
          refine wpAnyH_take (i := 1) (v := ?tv10) rfl (by kernel_rfl) (by kernel_rfl) (by kernel_rfl) (fun _ _ _ h => h) (Or.inl ⟨by rfl, ?th10⟩) (by assumption) ?tr10
          case th10 => (intro w hSw; (try dsimp only at hSw); go_simp; all_goals (with_reducible rfl))
          simp only [Act.put, List.getElem_toArray, List.getElem_cons_zero, List.getElem_cons_succ, List.setIfInBounds_toArray, List.set_cons_zero, List.set_cons_succ]
          refine wpAnyH_take (i := 2) (v := ?tv11) rfl (by kernel_rfl) (by kernel_rfl) (by kernel_rfl) (fun _ _ _ h => h) (Or.inl ⟨by rfl, ?th11⟩) (by assumption) ?tr11
          case th11 => (intro w hSw; (try dsimp only at hSw); go_simp; all_goals (with_reducible rfl))
          simp only [Act.put, List.getElem_toArray, List.getElem_cons_zero, List.getElem_cons_succ, List.setIfInBounds_toArray, List.set_cons_zero, List.set_cons_succ]
          refine wpAnyH_take (i := 3) (v := ?tv12) rfl (by kernel_rfl) (by kernel_rfl) (by kernel_rfl) (fun _ _ _ h => h) (Or.inl ⟨by rfl, ?th12⟩) (by assumption) ?tr12
          case th12 => (intro w hSw; (try dsimp only at hSw); go_simp; all_goals (with_reducible rfl))
          simp only [Act.put, List.getElem_toArray, List.getElem_cons_zero, List.getElem_cons_succ, List.setIfInBounds_toArray, List.set_cons_zero, List.set_cons_succ]
          refine wpAnyH_take (i := 4) (v := ?tv13) rfl (by kernel_rfl) (by kernel_rfl) (by kernel_rfl) (fun _ _ _ h => h) (Or.inl ⟨by rfl, ?th13⟩) (by assumption) ?tr13
          case th13 => (intro w hSw; (try dsimp only at hSw); go_simp; all_goals (with_reducible rfl))
          simp only [Act.put, List.getElem_toArray, List.getElem_cons_zero, List.getElem_cons_succ, List.setIfInBounds_toArray, List.set_cons_zero, List.set_cons_succ]
          refine wpAnyH_take (i := 5) (v := ?tv14) rfl (by kernel_rfl) (by kernel_rfl) (by kernel_rfl) (fun _ _ _ h => h) (Or.inl ⟨by rfl, ?th14⟩) (by assumption) ?tr14
          case th14 => (intro w hSw; (try dsimp only at hSw); go_simp; all_goals (with_reducible rfl))
          simp only [Act.put, List.getElem_toArray, List.getElem_cons_zero, List.getElem_cons_succ, List.setIfInBounds_toArray, List.set_cons_zero, List.set_cons_succ]
          refine wpAnyH_take (i := 6) (v := ?tv15) rfl (by kernel_rfl) (by kernel_rfl) (by kernel_rfl) (fun _ _ _ h => h) (Or.inl ⟨by rfl, ?th15⟩) (by assumption) ?tr15
          case th15 => (intro w hSw; (try dsimp only at hSw); go_simp; all_goals (with_reducible rfl))
          simp only [Act.put, List.getElem_toArray, List.getElem_cons_zero, List.getElem_cons_succ, List.setIfInBounds_toArray, List.set_cons_zero, List.set_cons_succ]
          refine wpAnyH_take (i := 7) (v := ?tv16) rfl (by kernel_rfl) (by kernel_rfl) (by kernel_rfl) (fun _ _ _ h => h) (Or.inl ⟨by rfl, ?th16⟩) (by assumption) ?tr16
          case th16 => (intro w hSw; (try dsimp only at hSw); go_simp; all_goals (with_reducible rfl))
          simp only [Act.put, List.getElem_toArray, List.getElem_cons_zero, List.getElem_cons_succ, List.setIfInBounds_toArray, List.set_cons_zero, List.set_cons_succ]
          refine wpAnyH_take (i := 8) (v := ?tv17) rfl (by kernel_rfl) (by kernel_rfl) (by kernel_rfl) (fun _ _ _ h => h) (Or.inl ⟨by rfl, ?th17⟩) (by assumption) ?tr17
          case th17 => (intro w hSw; (try dsimp only at hSw); go_simp; all_goals (with_reducible rfl))
          simp only [Act.put, List.getElem_toArray, List.getElem_cons_zero, List.getElem_cons_succ, List.setIfInBounds_toArray, List.set_cons_zero, List.set_cons_succ]
          refine wpAnyH_take (i := 9) (v := ?tv18) rfl (by kernel_rfl) (by kernel_rfl) (by kernel_rfl) (fun _ _ _ h => h) (Or.inl ⟨by rfl, ?th18⟩) (by assumption) ?tr18
          case th18 => (intro w hSw; (try dsimp only at hSw); go_simp; all_goals (with_reducible rfl))
          simp only [Act.put, List.getElem_toArray, List.getElem_cons_zero, List.getElem_cons_succ, List.setIfInBounds_toArray, List.set_cons_zero, List.set_cons_succ]
          refine wpAnyH_take (i := 10) (v := ?tv19) rfl (by kernel_rfl) (by kernel_rfl) (by kernel_rfl) (fun _ _ _ h => h) (Or.inl ⟨by rfl, ?th19⟩) (by assumption) ?tr19
          case th19 => (intro w hSw; (try dsimp only at hSw); go_simp; all_goals (with_reducible rfl))
          simp only [Act.put, List.getElem_toArray, List.getElem_cons_zero, List.getElem_cons_succ, List.setIfInBounds_toArray, List.set_cons_zero, List.set_cons_succ]
          refine wpAnyH_take (i := 11) (v := ?tv20) rfl (by kernel_rfl) (by kernel_rfl) (by kernel_rfl) (fun _ _ _ h => h) (Or.inl ⟨by rfl, ?th20⟩) (by assumption) ?tr20
          case th20 => (intro w hSw; (try dsimp only at hSw); go_simp; all_goals (with_reducible rfl))
          simp only [Act.put, List.getElem_toArray, List.getElem_cons_zero, List.getElem_cons_succ, List.setIfInBounds_toArray, List.set_cons_zero, List.set_cons_succ]
          refine wpAnyH_ready (rs := [12]) (by kernel_rfl) (by simp) ?_
          refine AllReadyH.cons rfl (fun K hK => ?_) AllReadyH.nil
          go_simp
          refine (KS.out _ BD).mono ?_
          rintro r v5 ⟨rfl, hv5⟩
          have B5 : Below ws.heap.size ws v5 := below_tr BD hv5
          clear hv5
          refine hK.out _ _ (SB.out _ B5) (fun hHeld => ?_)
          clear hK K
          try simp only [Act.put, List.getElem_toArray, List.getElem_cons_zero, List.getElem_cons_succ, List.setIfInBounds_toArray, List.set_cons_zero, List.set_cons_succ]
          refine wpAnyH_take (i := 13) (v := ?tv21) rfl (by kernel_rfl) (by kernel_rfl) (by kernel_rfl) (fun _ _ _ h => h) (Or.inl ⟨by rfl, ?th21⟩) (by assumption) ?tr21
          case th21 => (intro w hSw; (try dsimp only at hSw); go_simp; all_goals (with_reducible rfl))
          simp only [Act.put, List.getElem_toArray, List.getElem_cons_zero, List.getElem_cons_succ, List.setIfInBounds_toArray, List.set_cons_zero, List.set_cons_succ]
          refine wpAnyH_take (i := 14) (v := ?tv22) rfl (by kernel_rfl) (by kernel_rfl) (by kernel_rfl) (fun _ _ _ h => h) (Or.inl ⟨by rfl, ?th22⟩) (by assumption) ?tr22
          case th22 => (intro w hSw; (try dsimp only at hSw); go_simp; all_goals (with_reducible rfl))
          simp only [Act.put, List.getElem_toArray, List.getElem_cons_zero, List.getElem_cons_succ, List.setIfInBounds_toArray, List.set_cons_zero, List.set_cons_succ]
          refine wpAnyH_done (by kernel_rfl) ?_ _
          have A5 : Hid (RaAt w v5 a1 a2 c1 c2 X Y (some ⟨b1, o1, none⟩) (some ⟨b2, o2, none⟩)) := A2.out.2.below B5
          clear A2 SB BD B5 KS
          cases D with
          | false =>
            have HF : Hid (Z = false) := HZ.out.trans (alike_in R2.out HIn.out)
            clear hD
            go_wp2_with fail
            go_ret
            exact ⟨by rw [HF.out]; rfl, A5.out.bel⟩
          | true =>
            have hD2 : Hid (∀ (j : Nat) (e : Gr.Ed × Gr.Ed), j < k + 1 → (Se.fmap X X.length)[j]? = some e → Se.inR Y e = true) := fun i e hi he => by
              by_cases ei : i = k
              · subst ei
                rw [R2.out] at he
                injection he with he
                rw [← he]; exact HIn.out
              · exact hD.out i e (by omega) he
            clear hD HIn R2 R4
            go_wp2_with fail
            go_roundw
            case rel => exact ⟨k + 1, by omega, by go_num, hD2, A5⟩
            case measure => simp [intOf]; omega
      · obtain rfl : k = (Se.seen X X.length).length := by omega
        have hD2 : Hid (∀ (i : Nat) (e : Gr.Ed × Gr.Ed), (Se.fmap X X.length)[i]? = some e → Se.inR Y e = true) := fun i e he => hD.out i e (by rw [Se.seen_len, ← Se.fmap_len]; exact (List.getElem?_eq_some_iff.1 he).1) he
        obtain ⟨ws, hws⟩ : ∃ ws, ws = wr := ⟨_, rfl⟩
        rw [← hws] at hA ⊢
        have BD : Below ws.heap.size ws ws.drew := (Below.refl _ _).drew
        obtain ⟨fX, hfX⟩ : ∃ f, f = Se.lstN X := ⟨_, rfl⟩
        obtain ⟨fY, hfY⟩ : ∃ f, f = Se.lstN Y := ⟨_, rfl⟩
        have KL1 := hid fun W (hW : Below ws.heap.size ws W) => KL1.out W (H1.out.below (hA.out.below hW).bel)
        have KL2 := hid fun W (hW : Below ws.heap.size ws W) => KL2.out W (H2.out.below (hA.out.below hW).bel)
        rw [← hfX] at KL1
        rw [← hfY] at KL2
        have SB : Hid (∀ W, Below ws.heap.size ws W → W.cell? ⟨w.heap.size, 0, none⟩ = some (.slice a1 X.length c1) ∧ W.cell? ⟨w.heap.size + 1, 0, none⟩ = some (.slice a2 Y.length c2)) := fun W hW => ⟨(hA.out.below hW).b1.cell rfl, (hA.out.below hW).b2.cell rfl⟩
        have HfX := hid hfX
        have HfY := hid hfY
        clear hD hlt hk hws hfX hfY
        go_upto_region 11 with fail
        go_cut [10, 11] from 47 to 50 (fun p q wx => ∃ bp bq : Nat, p = .pointer (some ⟨bp, 0, none⟩) ∧ q = .pointer (some ⟨bq, 0, none⟩) ∧ ArrAt wx bp (iA fX) ∧ ArrAt wx bq (iA fY) ∧ Below ws.heap.size ws wx)
        case first =>
          refine wp_region_held_drew (S := (fun W => W.cell? ⟨w.heap.size, 0, none⟩ = some (.slice a1 X.length c1) ∧ W.cell? ⟨w.heap.size + 1, 0, none⟩ = some (.slice a2 Y.length c2))) (by kernel_rfl) (SB.out _ BD) (fun hHeld => ?_)
          obtain ⟨v0, hw0⟩ : ∃ x, x = World.drew ws := ⟨_, rfl⟩
          rw [← hw0] at BD hHeld ⊢
          clear hw0
          refine wpAnyH_take (i := 0) (v := ?tv23) rfl (by kernel_rfl) (by kernel_rfl) (by kernel_rfl) (fun _ _ _ h => h) (Or.inl ⟨by rfl, ?th23⟩) (by assumption) ?tr23
          case th23 => (intro w hSw; (try dsimp only at hSw); go_simp; all_goals (with_reducible rfl))
          simp only [Act.put, List.getElem_toArray, List.getElem_cons_zero, List.setIfInBounds_toArray, List.set_cons_zero, List.set_cons_succ]
          refine wpAnyH_take (i := 2) (v := ?tv24) rfl (by kernel_rfl) (by kernel_rfl) (by kernel_rfl) (fun _ _ _ h => h) (Or.inl ⟨by rfl, ?th24⟩) (by assumption) ?tr24
          case th24 => (intro w hSw; (try dsimp only at hSw); go_simp; all_goals (with_reducible rfl))
          simp only [Act.put, List.getElem_toArray, List.getElem_cons_zero, List.getElem_cons_succ, List.setIfInBounds_toArray, List.set_cons_zero, List.set_cons_succ]
          refine wpAnyH_ready (rs := [1, 4, 5]) (by kernel_rfl) (by simp) ?_
          refine AllReadyH.cons rfl (fun K hK => ?_) (AllReadyH.cons rfl (fun K hK => ?_) (AllReadyH.cons rfl (fun K hK => ?_) AllReadyH.nil))
          · skip
            go_simp
            refine (KL1.out _ BD).mono ?_
            rintro r v1 ⟨rfl, hv1⟩
            have C1 : Below ws.heap.size ws v1 := below_tr BD hv1
            clear hv1
            refine hK.out _ _ (SB.out _ C1) (fun hHeld => ?_)
            clear hK K
            try simp only [Act.put, List.getElem_toArray, List.getElem_cons_zero, List.getElem_cons_succ, List.setIfInBounds_toArray, List.set_cons_zero, List.set_cons_succ]
            refine wpAnyH_ready (rs := [3, 4, 5]) (by kernel_rfl) (by simp) ?_
            refine AllReadyH.cons rfl (fun K hK => ?_) (AllReadyH.cons rfl (fun K hK => ?_) (AllReadyH.cons rfl (fun K hK => ?_) AllReadyH.nil))
            · skip
              go_simp
              refine (KL2.out _ C1).mono ?_
              rintro r v2 ⟨rfl, hv2⟩
              have C2 : Below ws.heap.size ws v2 := below_tr C1 hv2
              clear hv2
              refine hK.out _ _ (SB.out _ C2) (fun hHeld => ?_)
              clear hK K
              try simp only [Act.put, List.getElem_toArray, List.getElem_cons_zero, List.getElem_cons_succ, List.setIfInBounds_toArray, List.set_cons_zero, List.set_cons_succ]
              refine wpAnyH_ready (rs := [4, 5]) (by kernel_rfl) (by simp) ?_
              refine AllReadyH.cons rfl (fun K hK => ?_) (AllReadyH.cons rfl (fun K hK => ?_) AllReadyH.nil)
              · skip
                go_simp
                have A3 : ArrAt (v2.alloc (.cells (iA fun _ => 0) 90)) v2.heap.size (iA fun _ => 0) := ArrAt.new v2 _ _
                have C3 : Below ws.heap.size ws (v2.alloc (.cells (iA fun _ => 0) 90)) := below_tr C2 (bx _ _)
                have L3 : ws.heap.size ≤ v2.heap.size := C2.size
                refine hK.out _ _ (SB.out _ C3) (fun hHeld => ?_)
                clear hK K
                try simp only [Act.put, List.getElem_toArray, List.getElem_cons_zero, List.getElem_cons_succ, List.setIfInBounds_toArray, List.set_cons_zero, List.set_cons_succ]
                obtain ⟨g4, hg4⟩ : ∃ g, g = v2.heap.size := ⟨_, rfl⟩
                obtain ⟨v3, hw3⟩ : ∃ x, x = v2.alloc (.cells (iA fun _ => 0) 90) := ⟨_, rfl⟩
                rw [← hg4] at A3 L3 ⊢
                rw [← hw3] at A3 C3 ⊢
                clear hg4 hw3
                refine wpAnyH_ready (rs := [5]) (by kernel_rfl) (by simp) ?_
                refine AllReadyH.cons rfl (fun K hK => ?_) AllReadyH.nil
                go_simp
                have A4 : ArrAt (v3.alloc (.cells (iA fun _ => 0) 90)) v3.heap.size (iA fun _ => 0) := ArrAt.new v3 _ _
                have C4 : Below ws.heap.size ws (v3.alloc (.cells (iA fun _ => 0) 90)) := below_tr C3 (bx _ _)
                have L4 : ws.heap.size ≤ v3.heap.size := C3.size
                have N4_4 : ArrAt (v3.alloc (.cells (iA fun _ => 0) 90)) g4 (iA fun _ => 0) := A3.below (bx _ _)
                have od4 := ArrAt.lt A3
                refine hK.out _ _ (SB.out _ C4) (fun hHeld => ?_)
                clear hK K
                try simp only [Act.put, List.getElem_toArray, List.getElem_cons_zero, List.getElem_cons_succ, List.setIfInBounds_toArray, List.set_cons_zero, List.set_cons_succ]
                obtain ⟨g5, hg5⟩ : ∃ g, g = v3.heap.size := ⟨_, rfl⟩
                obtain ⟨v4, hw4⟩ : ∃ x, x = v3.alloc (.cells (iA fun _ => 0) 90) := ⟨_, rfl⟩
                rw [← hg5] at A4 L4 od4 ⊢
                rw [← hw4] at A4 C4 N4_4 ⊢
                clear hg5 hw4
                have hne : g5 ≠ g4 := by have := od4; omega
                have sta := run_storeI (f := fX) N4_4
                have stb := run_storeI (f := fY) (ArrAt.other A4 (iA fX) hne)
                have C8 : Below ws.heap.size ws (v4.setRow g4 (iA fX)) := Below.row C4 L3 _
                have C9 : Below ws.heap.size ws ((v4.setRow g4 (iA fX)).setRow g5 (iA fY)) := Below.row C8 L4 _
                have R10 : ArrAt ((v4.setRow g4 (iA fX)).setRow g5 (iA fY)) g4 (iA fX) := ArrAt.other (ArrAt.row N4_4 (iA fX)) (iA fY) (fun h => hne h.symm)
                have R11 : ArrAt ((v4.setRow g4 (iA fX)).setRow g5 (iA fY)) g5 (iA fY) := ArrAt.row (ArrAt.other A4 (iA fX) hne) (iA fY)
                refine wpAnyH_ready (rs := [6]) (by kernel_rfl) (by simp) ?_
                refine AllReadyH.cons rfl (fun K hK => ?_) AllReadyH.nil
                go_simp
                refine hK.out _ _ (SB.out _ C8) (fun hHeld => ?_)
                clear hK K
                try simp only [Act.put, List.getElem_toArray, List.getElem_cons_zero, List.getElem_cons_succ, List.setIfInBounds_toArray, List.set_cons_zero, List.set_cons_succ]
                refine wpAnyH_ready (rs := [7]) (by kernel_rfl) (by simp) ?_
                refine AllReadyH.cons rfl (fun K hK => ?_) AllReadyH.nil
                go_simp
                refine hK.out _ _ (SB.out _ C9) (fun hHeld => ?_)
                clear hK K
                try simp only [Act.put, List.getElem_toArray, List.getElem_cons_zero, List.getElem_cons_succ, List.setIfInBounds_toArray, List.set_cons_zero, List.set_cons_succ]
                refine wpAnyH_done (by kernel_rfl) ?_ _
                go_wp2_with fail
                go_meet
                exact ⟨g4, g5, rfl, rfl, R10, R11, C9⟩
              · skip
                go_simp
                have A3 : ArrAt (v2.alloc (.cells (iA fun _ => 0) 90)) v2.heap.size (iA fun _ => 0) := ArrAt.new v2 _ _
                have C3 : Below ws.heap.size ws (v2.alloc (.cells (iA fun _ => 0) 90)) := below_tr C2 (bx _ _)
                have L3 : ws.heap.size ≤ v2.heap.size := C2.size
                refine hK.out _ _ (SB.out _ C3) (fun hHeld => ?_)
                clear hK K
                try simp only [Act.put, List.getElem_toArray, List.getElem_cons_zero, List.getElem_cons_succ, List.setIfInBounds_toArray, List.set_cons_zero, List.set_cons_succ]
                obtain ⟨g5, hg5⟩ : ∃ g, g = v2.heap.size := ⟨_, rfl⟩
                obtain ⟨v3, hw3⟩ : ∃ x, x = v2.alloc (.cells (iA fun _ => 0) 90) := ⟨_, rfl⟩
                rw [← hg5] at A3 L3 ⊢
                rw [← hw3] at A3 C3 ⊢
                clear hg5 hw3
                refine wpAnyH_ready (rs := [4]) (by kernel_rfl) (by simp) ?_
                refine AllReadyH.cons rfl (fun K hK => ?_) AllReadyH.nil
                go_simp
                have A4 : ArrAt (v3.alloc (.cells (iA fun _ => 0) 90)) v3.heap.size (iA fun _ => 0) := ArrAt.new v3 _ _
                have C4 : Below ws.heap.size ws (v3.alloc (.cells (iA fun _ => 0) 90)) := below_tr C3 (bx _ _)
                have L4 : ws.heap.size ≤ v3.heap.size := C3.size
                have N5_4 : ArrAt (v3.alloc (.cells (iA fun _ => 0) 90)) g5 (iA fun _ => 0) := A3.below (bx _ _)
                have od4 := ArrAt.lt A3
                refine hK.out _ _ (SB.out _ C4) (fun hHeld => ?_)
                clear hK K
                try simp only [Act.put, List.getElem_toArray, List.getElem_cons_zero, List.getElem_cons_succ, List.setIfInBounds_toArray, List.set_cons_zero, List.set_cons_succ]
                obtain ⟨g4, hg4⟩ : ∃ g, g = v3.heap.size := ⟨_, rfl⟩
                obtain ⟨v4, hw4⟩ : ∃ x, x = v3.alloc (.cells (iA fun _ => 0) 90) := ⟨_, rfl⟩
                rw [← hg4] at A4 L4 od4 ⊢
                rw [← hw4] at A4 C4 N5_4 ⊢
                clear hg4 hw4
                have hne : g5 ≠ g4 := by have := od4; omega
                have sta := run_storeI (f := fX) A4
                have stb := run_storeI (f := fY) (ArrAt.other N5_4 (iA fX) hne)
                have C8 : Below ws.heap.size ws (v4.setRow g4 (iA fX)) := Below.row C4 L4 _
                have C9 : Below ws.heap.size ws ((v4.setRow g4 (iA fX)).setRow g5 (iA fY)) := Below.row C8 L3 _
                have R10 : ArrAt ((v4.setRow g4 (iA fX)).setRow g5 (iA fY)) g4 (iA fX) := ArrAt.other (ArrAt.row A4 (iA fX)) (iA fY) (fun h => hne h.symm)
                have R11 : ArrAt ((v4.setRow g4 (iA fX)).setRow g5 (iA fY)) g5 (iA fY) := ArrAt.row (ArrAt.other N5_4 (iA fX) hne) (iA fY)
                refine wpAnyH_ready (rs := [6]) (by kernel_rfl) (by simp) ?_
                refine AllReadyH.cons rfl (fun K hK => ?_) AllReadyH.nil
                go_simp
                refine hK.out _ _ (SB.out _ C8) (fun hHeld => ?_)
                clear hK K
                try simp only [Act.put, List.getElem_toArray, List.getElem_cons_zero, List.getElem_cons_succ, List.setIfInBounds_toArray, List.set_cons_zero, List.set_cons_succ]
                refine wpAnyH_ready (rs := [7]) (by kernel_rfl) (by simp) ?_
                refine AllReadyH.cons rfl (fun K hK => ?_) AllReadyH.nil
                go_simp
                refine hK.out _ _ (SB.out _ C9) (fun hHeld => ?_)
                clear hK K
                try simp only [Act.put, List.getElem_toArray, List.getElem_cons_zero, List.getElem_cons_succ, List.setIfInBounds_toArray, List.set_cons_zero, List.set_cons_succ]
                refine wpAnyH_done (by kernel_rfl) ?_ _
                go_wp2_with fail
                go_meet
                exact ⟨g4, g5, rfl, rfl, R10, R11, C9⟩
            · skip
              go_simp
              have A2 : ArrAt (v1.alloc (.cells (iA fun _ => 0) 90)) v1.heap.size (iA fun _ => 0) := ArrAt.new v1 _ _
              have C2 : Below ws.heap.size ws (v1.alloc (.cells (iA fun _ => 0) 90)) := below_tr C1 (bx _ _)
              have L2 : ws.heap.size ≤ v1.heap.size := C1.size
              refine hK.out _ _ (SB.out _ C2) (fun hHeld => ?_)
              clear hK K
              try simp only [Act.put, List.getElem_toArray, List.getElem_cons_zero, List.getElem_cons_succ, List.setIfInBounds_toArray, List.set_cons_zero, List.set_cons_succ]
              obtain ⟨g4, hg4⟩ : ∃ g, g = v1.heap.size := ⟨_, rfl⟩
              obtain ⟨v2, hw2⟩ : ∃ x, x = v1.alloc (.cells (iA fun _ => 0) 90) := ⟨_, rfl⟩
              rw [← hg4] at A2 L2 ⊢
              rw [← hw2] at A2 C2 ⊢
              clear hg4 hw2
              refine wpAnyH_ready (rs := [3, 5]) (by kernel_rfl) (by simp) ?_
              refine AllReadyH.cons rfl (fun K hK => ?_) (AllReadyH.cons rfl (fun K hK => ?_) AllReadyH.nil)
              · skip
                go_simp
                refine (KL2.out _ C2).mono ?_
                rintro r v3 ⟨rfl, hv3⟩
                have C3 : Below ws.heap.size ws v3 := below_tr C2 hv3
                have N4_3 := A2.below hv3
                clear hv3
                refine hK.out _ _ (SB.out _ C3) (fun hHeld => ?_)
                clear hK K
                try simp only [Act.put, List.getElem_toArray, List.getElem_cons_zero, List.getElem_cons_succ, List.setIfInBounds_toArray, List.set_cons_zero, List.set_cons_succ]
                refine wpAnyH_ready (rs := [5]) (by kernel_rfl) (by simp) ?_
                refine AllReadyH.cons rfl (fun K hK => ?_) AllReadyH.nil
                go_simp
                have A4 : ArrAt (v3.alloc (.cells (iA fun _ => 0) 90)) v3.heap.size (iA fun _ => 0) := ArrAt.new v3 _ _
                have C4 : Below ws.heap.size ws (v3.alloc (.cells (iA fun _ => 0) 90)) := below_tr C3 (bx _ _)
                have L4 : ws.heap.size ≤ v3.heap.size := C3.size
                have N4_4 : ArrAt (v3.alloc (.cells (iA fun _ => 0) 90)) g4 (iA fun _ => 0) := N4_3.below (bx _ _)
                have od4 := ArrAt.lt N4_3
                refine hK.out _ _ (SB.out _ C4) (fun hHeld => ?_)
                clear hK K
                try simp only [Act.put, List.getElem_toArray, List.getElem_cons_zero, List.getElem_cons_succ, List.setIfInBounds_toArray, List.set_cons_zero, List.set_cons_succ]
                obtain ⟨g5, hg5⟩ : ∃ g, g = v3.heap.size := ⟨_, rfl⟩
                obtain ⟨v4, hw4⟩ : ∃ x, x = v3.alloc (.cells (iA fun _ => 0) 90) := ⟨_, rfl⟩
                rw [← hg5] at A4 L4 od4 ⊢
                rw [← hw4] at A4 C4 N4_4 ⊢
                clear hg5 hw4
                have hne : g5 ≠ g4 := by have := od4; omega
                have sta := run_storeI (f := fX) N4_4
                have stb := run_storeI (f := fY) (ArrAt.other A4 (iA fX) hne)
                have C8 : Below ws.heap.size ws (v4.setRow g4 (iA fX)) := Below.row C4 L2 _
                have C9 : Below ws.heap.size ws ((v4.setRow g4 (iA fX)).setRow g5 (iA fY)) := Below.row C8 L4 _
                have R10 : ArrAt ((v4.setRow g4 (iA fX)).setRow g5 (iA fY)) g4 (iA fX) := ArrAt.other (ArrAt.row N4_4 (iA fX)) (iA fY) (fun h => hne h.symm)
                have R11 : ArrAt ((v4.setRow g4 (iA fX)).setRow g5 (iA fY)) g5 (iA fY) := ArrAt.row (ArrAt.other A4 (iA fX) hne) (iA fY)
                refine wpAnyH_ready (rs := [6]) (by kernel_rfl) (by simp) ?_
                refine AllReadyH.cons rfl (fun K hK => ?_) AllReadyH.nil
                go_simp
                refine hK.out _ _ (SB.out _ C8) (fun hHeld => ?_)
                clear hK K
                try simp only [Act.put, List.getElem_toArray, List.getElem_cons_zero, List.getElem_cons_succ, List.setIfInBounds_toArray, List.set_cons_zero, List.set_cons_succ]
                refine wpAnyH_ready (rs := [7]) (by kernel_rfl) (by simp) ?_
                refine AllReadyH.cons rfl (fun K hK => ?_) AllReadyH.nil
                go_simp
                refine hK.out _ _ (SB.out _ C9) (fun hHeld => ?_)
                clear hK K
                try simp only [Act.put, List.getElem_toArray, List.getElem_cons_zero, List.getElem_cons_succ, List.setIfInBounds_toArray, List.set_cons_zero, List.set_cons_succ]
                refine wpAnyH_done (by kernel_rfl) ?_ _
                go_wp2_with fail
                go_meet
                exact ⟨g4, g5, rfl, rfl, R10, R11, C9⟩
              · skip
                go_simp
                have A3 : ArrAt (v2.alloc (.cells (iA fun _ => 0) 90)) v2.heap.size (iA fun _ => 0) := ArrAt.new v2 _ _
                have C3 : Below ws.heap.size ws (v2.alloc (.cells (iA fun _ => 0) 90)) := below_tr C2 (bx _ _)
                have L3 : ws.heap.size ≤ v2.heap.size := C2.size
                have N4_3 : ArrAt (v2.alloc (.cells (iA fun _ => 0) 90)) g4 (iA fun _ => 0) := A2.below (bx _ _)
                have od3 := ArrAt.lt A2
                refine hK.out _ _ (SB.out _ C3) (fun hHeld => ?_)
                clear hK K
                try simp only [Act.put, List.getElem_toArray, List.getElem_cons_zero, List.getElem_cons_succ, List.setIfInBounds_toArray, List.set_cons_zero, List.set_cons_succ]
                obtain ⟨g5, hg5⟩ : ∃ g, g = v2.heap.size := ⟨_, rfl⟩
                obtain ⟨v3, hw3⟩ : ∃ x, x = v2.alloc (.cells (iA fun _ => 0) 90) := ⟨_, rfl⟩
                rw [← hg5] at A3 L3 od3 ⊢
                rw [← hw3] at A3 C3 N4_3 ⊢
                clear hg5 hw3
                refine wpAnyH_ready (rs := [3]) (by kernel_rfl) (by simp) ?_
                refine AllReadyH.cons rfl (fun K hK => ?_) AllReadyH.nil
                go_simp
                refine (KL2.out _ C3).mono ?_
                rintro r v4 ⟨rfl, hv4⟩
                have C4 : Below ws.heap.size ws v4 := below_tr C3 hv4
                have N4_4 := N4_3.below hv4
                have N5_4 := A3.below hv4
                clear hv4
                refine hK.out _ _ (SB.out _ C4) (fun hHeld => ?_)
                clear hK K
                try simp only [Act.put, List.getElem_toArray, List.getElem_cons_zero, List.getElem_cons_succ, List.setIfInBounds_toArray, List.set_cons_zero, List.set_cons_succ]
                have hne : g5 ≠ g4 := by have := od3; omega
                have sta := run_storeI (f := fX) N4_4
                have stb := run_storeI (f := fY) (ArrAt.other N5_4 (iA fX) hne)
                have C8 : Below ws.heap.size ws (v4.setRow g4 (iA fX)) := Below.row C4 L2 _
                have C9 : Below ws.heap.size ws ((v4.setRow g4 (iA fX)).setRow g5 (iA fY)) := Below.row C8 L3 _
                have R10 : ArrAt ((v4.setRow g4 (iA fX)).setRow g5 (iA fY)) g4 (iA fX) := ArrAt.other (ArrAt.row N4_4 (iA fX)) (iA fY) (fun h => hne h.symm)
                have R11 : ArrAt ((v4.setRow g4 (iA fX)).setRow g5 (iA fY)) g5 (iA fY) := ArrAt.row (ArrAt.other N5_4 (iA fX) hne) (iA fY)
                refine wpAnyH_ready (rs := [6]) (by kernel_rfl) (by simp) ?_
                refine AllReadyH.cons rfl (fun K hK => ?_) AllReadyH.nil
                go_simp
                refine hK.out _ _ (SB.out _ C8) (fun hHeld => ?_)
                clear hK K
                try simp only [Act.put, List.getElem_toArray, List.getElem_cons_zero, List.getElem_cons_succ, List.setIfInBounds_toArray, List.set_cons_zero, List.set_cons_succ]
                refine wpAnyH_ready (rs := [7]) (by kernel_rfl) (by simp) ?_
                refine AllReadyH.cons rfl (fun K hK => ?_) AllReadyH.nil
                go_simp
                refine hK.out _ _ (SB.out _ C9) (fun hHeld => ?_)
                clear hK K
                try simp only [Act.put, List.getElem_toArray, List.getElem_cons_zero, List.getElem_cons_succ, List.setIfInBounds_toArray, List.set_cons_zero, List.set_cons_succ]
                refine wpAnyH_done (by kernel_rfl) ?_ _
                go_wp2_with fail
                go_meet
                exact ⟨g4, g5, rfl, rfl, R10, R11, C9⟩
            · skip
              go_simp
              have A2 : ArrAt (v1.alloc (.cells (iA fun _ => 0) 90)) v1.heap.size (iA fun _ => 0) := ArrAt.new v1 _ _
              have C2 : Below ws.heap.size ws (v1.alloc (.cells (iA fun _ => 0) 90)) := below_tr C1 (bx _ _)
              have L2 : ws.heap.size ≤ v1.heap.size := C1.size
              refine hK.out _ _ (SB.out _ C2) (fun hHeld => ?_)
              clear hK K
              try simp only [Act.put, List.getElem_toArray, List.getElem_cons_zero, List.getElem_cons_succ, List.setIfInBounds_toArray, List.set_cons_zero, List.set_cons_succ]
              obtain ⟨g5, hg5⟩ : ∃ g, g = v1.heap.size := ⟨_, rfl⟩
              obtain ⟨v2, hw2⟩ : ∃ x, x = v1.alloc (.cells (iA fun _ => 0) 90) := ⟨_, rfl⟩
              rw [← hg5] at A2 L2 ⊢
              rw [← hw2] at A2 C2 ⊢
              clear hg5 hw2
              refine wpAnyH_ready (rs := [3, 4]) (by kernel_rfl) (by simp) ?_
              refine AllReadyH.cons rfl (fun K hK => ?_) (AllReadyH.cons rfl (fun K hK => ?_) AllReadyH.nil)
              · skip
                go_simp
                refine (KL2.out _ C2).mono ?_
                rintro r v3 ⟨rfl, hv3⟩
                have C3 : Below ws.heap.size ws v3 := below_tr C2 hv3
                have N5_3 := A2.below hv3
                clear hv3
                refine hK.out _ _ (SB.out _ C3) (fun hHeld => ?_)
                clear hK K
                try simp only [Act.put, List.getElem_toArray, List.getElem_cons_zero, List.getElem_cons_succ, List.setIfInBounds_toArray, List.set_cons_zero, List.set_cons_succ]
                refine wpAnyH_ready (rs := [4]) (by kernel_rfl) (by simp) ?_
                refine AllReadyH.cons rfl (fun K hK => ?_) AllReadyH.nil
                go_simp
                have A4 : ArrAt (v3.alloc (.cells (iA fun _ => 0) 90)) v3.heap.size (iA fun _ => 0) := ArrAt.new v3 _ _
                have C4 : Below ws.heap.size ws (v3.alloc (.cells (iA fun _ => 0) 90)) := below_tr C3 (bx _ _)
                have L4 : ws.heap.size ≤ v3.heap.size := C3.size
                have N5_4 : ArrAt (v3.alloc (.cells (iA fun _ => 0) 90)) g5 (iA fun _ => 0) := N5_3.below (bx _ _)
                have od4 := ArrAt.lt N5_3
                refine hK.out _ _ (SB.out _ C4) (fun hHeld => ?_)
                clear hK K
                try simp only [Act.put, List.getElem_toArray, List.getElem_cons_zero, List.getElem_cons_succ, List.setIfInBounds_toArray, List.set_cons_zero, List.set_cons_succ]
                obtain ⟨g4, hg4⟩ : ∃ g, g = v3.heap.size := ⟨_, rfl⟩
                obtain ⟨v4, hw4⟩ : ∃ x, x = v3.alloc (.cells (iA fun _ => 0) 90) := ⟨_, rfl⟩
                rw [← hg4] at A4 L4 od4 ⊢
                rw [← hw4] at A4 C4 N5_4 ⊢
                clear hg4 hw4
                have hne : g5 ≠ g4 := by have := od4; omega
                have sta := run_storeI (f := fX) A4
                have stb := run_storeI (f := fY) (ArrAt.other N5_4 (iA fX) hne)
                have C8 : Below ws.heap.size ws (v4.setRow g4 (iA fX)) := Below.row C4 L4 _
                have C9 : Below ws.heap.size ws ((v4.setRow g4 (iA fX)).setRow g5 (iA fY)) := Below.row C8 L2 _
                have R10 : ArrAt ((v4.setRow g4 (iA fX)).setRow g5 (iA fY)) g4 (iA fX) := ArrAt.other (ArrAt.row A4 (iA fX)) (iA fY) (fun h => hne h.symm)
                have R11 : ArrAt ((v4.setRow g4 (iA fX)).setRow g5 (iA fY)) g5 (iA fY) := ArrAt.row (ArrAt.other N5_4 (iA fX) hne) (iA fY)
                refine wpAnyH_ready (rs := [6]) (by kernel_rfl) (by simp) ?_
                refine AllReadyH.cons rfl (fun K hK => ?_) AllReadyH.nil
                go_simp
                refine hK.out _ _ (SB.out _ C8) (fun hHeld => ?_)
                clear hK K
                try simp only [Act.put, List.getElem_toArray, List.getElem_cons_zero, List.getElem_cons_succ, List.setIfInBounds_toArray, List.set_cons_zero, List.set_cons_succ]
                refine wpAnyH_ready (rs := [7]) (by kernel_rfl) (by simp) ?_
                refine AllReadyH.cons rfl (fun K hK => ?_) AllReadyH.nil
                go_simp
                refine hK.out _ _ (SB.out _ C9) (fun hHeld => ?_)
                clear hK K
                try simp only [Act.put, List.getElem_toArray, List.getElem_cons_zero, List.getElem_cons_succ, List.setIfInBounds_toArray, List.set_cons_zero, List.set_cons_succ]
                refine wpAnyH_done (by kernel_rfl) ?_ _
                go_wp2_with fail
                go_meet
                exact ⟨g4, g5, rfl, rfl, R10, R11, C9⟩
              · skip
                go_simp
                have A3 : ArrAt (v2.alloc (.cells (iA fun _ => 0) 90)) v2.heap.size (iA fun _ => 0) := ArrAt.new v2 _ _
                have C3 : Below ws.heap.size ws (v2.alloc (.cells (iA fun _ => 0) 90)) := below_tr C2 (bx _ _)
                have L3 : ws.heap.size ≤ v2.heap.size := C2.size
                have N5_3 : ArrAt (v2.alloc (.cells (iA fun _ => 0) 90)) g5 (iA fun _ => 0) := A2.below (bx _ _)
                have od3 := ArrAt.lt A2
                refine hK.out _ _ (SB.out _ C3) (fun hHeld => ?_)
                clear hK K
                try simp only [Act.put, List.getElem_toArray, List.getElem_cons_zero, List.getElem_cons_succ, List.setIfInBounds_toArray, List.set_cons_zero, List.set_cons_succ]
                obtain ⟨g4, hg4⟩ : ∃ g, g = v2.heap.size := ⟨_, rfl⟩
                obtain ⟨v3, hw3⟩ : ∃ x, x = v2.alloc (.cells (iA fun _ => 0) 90) := ⟨_, rfl⟩
                rw [← hg4] at A3 L3 od3 ⊢
                rw [← hw3] at A3 C3 N5_3 ⊢
                clear hg4 hw3
                refine wpAnyH_ready (rs := [3]) (by kernel_rfl) (by simp) ?_
                refine AllReadyH.cons rfl (fun K hK => ?_) AllReadyH.nil
                go_simp
                refine (KL2.out _ C3).mono ?_
                rintro r v4 ⟨rfl, hv4⟩
                have C4 : Below ws.heap.size ws v4 := below_tr C3 hv4
                have N5_4 := N5_3.below hv4
                have N4_4 := A3.below hv4
                clear hv4
                refine hK.out _ _ (SB.out _ C4) (fun hHeld => ?_)
                clear hK K
                try simp only [Act.put, List.getElem_toArray, List.getElem_cons_zero, List.getElem_cons_succ, List.setIfInBounds_toArray, List.set_cons_zero, List.set_cons_succ]
                have hne : g5 ≠ g4 := by have := od3; omega
                have sta := run_storeI (f := fX) N4_4
                have stb := run_storeI (f := fY) (ArrAt.other N5_4 (iA fX) hne)
                have C8 : Below ws.heap.size ws (v4.setRow g4 (iA fX)) := Below.row C4 L3 _
                have C9 : Below ws.heap.size ws ((v4.setRow g4 (iA fX)).setRow g5 (iA fY)) := Below.row C8 L2 _
                have R10 : ArrAt ((v4.setRow g4 (iA fX)).setRow g5 (iA fY)) g4 (iA fX) := ArrAt.other (ArrAt.row N4_4 (iA fX)) (iA fY) (fun h => hne h.symm)
                have R11 : ArrAt ((v4.setRow g4 (iA fX)).setRow g5 (iA fY)) g5 (iA fY) := ArrAt.row (ArrAt.other N5_4 (iA fX) hne) (iA fY)
                refine wpAnyH_ready (rs := [6]) (by kernel_rfl) (by simp) ?_
                refine AllReadyH.cons rfl (fun K hK => ?_) AllReadyH.nil
                go_simp
                refine hK.out _ _ (SB.out _ C8) (fun hHeld => ?_)
                clear hK K
                try simp only [Act.put, List.getElem_toArray, List.getElem_cons_zero, List.getElem_cons_succ, List.setIfInBounds_toArray, List.set_cons_zero, List.set_cons_succ]
                refine wpAnyH_ready (rs := [7]) (by kernel_rfl) (by simp) ?_
                refine AllReadyH.cons rfl (fun K hK => ?_) AllReadyH.nil
                go_simp
                refine hK.out _ _ (SB.out _ C9) (fun hHeld => ?_)
                clear hK K
                try simp only [Act.put, List.getElem_toArray, List.getElem_cons_zero, List.getElem_cons_succ, List.setIfInBounds_toArray, List.set_cons_zero, List.set_cons_succ]
                refine wpAnyH_done (by kernel_rfl) ?_ _
                go_wp2_with fail
                go_meet
                exact ⟨g4, g5, rfl, rfl, R10, R11, C9⟩
          · skip
            go_simp
            have A1 : ArrAt (v0.alloc (.cells (iA fun _ => 0) 90)) v0.heap.size (iA fun _ => 0) := ArrAt.new v0 _ _
            have C1 : Below ws.heap.size ws (v0.alloc (.cells (iA fun _ => 0) 90)) := below_tr BD (bx _ _)
            have L1 : ws.heap.size ≤ v0.heap.size := BD.size
            refine hK.out _ _ (SB.out _ C1) (fun hHeld => ?_)
            clear hK K
            try simp only [Act.put, List.getElem_toArray, List.getElem_cons_zero, List.getElem_cons_succ, List.setIfInBounds_toArray, List.set_cons_zero, List.set_cons_succ]
            obtain ⟨g4, hg4⟩ : ∃ g, g = v0.heap.size := ⟨_, rfl⟩
            obtain ⟨v1, hw1⟩ : ∃ x, x = v0.alloc (.cells (iA fun _ => 0) 90) := ⟨_, rfl⟩
            rw [← hg4] at A1 L1 ⊢
            rw [← hw1] at A1 C1 ⊢
            clear hg4 hw1
            refine wpAnyH_ready (rs := [1, 5]) (by kernel_rfl) (by simp) ?_
            refine AllReadyH.cons rfl (fun K hK => ?_) (AllReadyH.cons rfl (fun K hK => ?_) AllReadyH.nil)
            · skip
              go_simp
              refine (KL1.out _ C1).mono ?_
              rintro r v2 ⟨rfl, hv2⟩
              have C2 : Below ws.heap.size ws v2 := below_tr C1 hv2
              have N4_2 := A1.below hv2
              clear hv2
              refine hK.out _ _ (SB.out _ C2) (fun hHeld => ?_)
              clear hK K
              try simp only [Act.put, List.getElem_toArray, List.getElem_cons_zero, List.getElem_cons_succ, List.setIfInBounds_toArray, List.set_cons_zero, List.set_cons_succ]
              refine wpAnyH_ready (rs := [3, 5]) (by kernel_rfl) (by simp) ?_
              refine AllReadyH.cons rfl (fun K hK => ?_) (AllReadyH.cons rfl (fun K hK => ?_) AllReadyH.nil)
              · skip
                go_simp
                refine (KL2.out _ C2).mono ?_
                rintro r v3 ⟨rfl, hv3⟩
                have C3 : Below ws.heap.size ws v3 := below_tr C2 hv3
                have N4_3 := N4_2.below hv3
                clear hv3
                refine hK.out _ _ (SB.out _ C3) (fun hHeld => ?_)
                clear hK K
                try simp only [Act.put, List.getElem_toArray, List.getElem_cons_zero, List.getElem_cons_succ, List.setIfInBounds_toArray, List.set_cons_zero, List.set_cons_succ]
                refine wpAnyH_ready (rs := [5]) (by kernel_rfl) (by simp) ?_
                refine AllReadyH.cons rfl (fun K hK => ?_) AllReadyH.nil
                go_simp
                have A4 : ArrAt (v3.alloc (.cells (iA fun _ => 0) 90)) v3.heap.size (iA fun _ => 0) := ArrAt.new v3 _ _
                have C4 : Below ws.heap.size ws (v3.alloc (.cells (iA fun _ => 0) 90)) := below_tr C3 (bx _ _)
                have L4 : ws.heap.size ≤ v3.heap.size := C3.size
                have N4_4 : ArrAt (v3.alloc (.cells (iA fun _ => 0) 90)) g4 (iA fun _ => 0) := N4_3.below (bx _ _)
                have od4 := ArrAt.lt N4_3
                refine hK.out _ _ (SB.out _ C4) (fun hHeld => ?_)
                clear hK K
                try simp only [Act.put, List.getElem_toArray, List.getElem_cons_zero, List.getElem_cons_succ, List.setIfInBounds_toArray, List.set_cons_zero, List.set_cons_succ]
                obtain ⟨g5, hg5⟩ : ∃ g, g = v3.heap.size := ⟨_, rfl⟩
                obtain ⟨v4, hw4⟩ : ∃ x, x = v3.alloc (.cells (iA fun _ => 0) 90) := ⟨_, rfl⟩
                rw [← hg5] at A4 L4 od4 ⊢
                rw [← hw4] at A4 C4 N4_4 ⊢
                clear hg5 hw4
                have hne : g5 ≠ g4 := by have := od4; omega
                have sta := run_storeI (f := fX) N4_4
                have stb := run_storeI (f := fY) (ArrAt.other A4 (iA fX) hne)
                have C8 : Below ws.heap.size ws (v4.setRow g4 (iA fX)) := Below.row C4 L1 _
                have C9 : Below ws.heap.size ws ((v4.setRow g4 (iA fX)).setRow g5 (iA fY)) := Below.row C8 L4 _
                have R10 : ArrAt ((v4.setRow g4 (iA fX)).setRow g5 (iA fY)) g4 (iA fX) := ArrAt.other (ArrAt.row N4_4 (iA fX)) (iA fY) (fun h => hne h.symm)
                have R11 : ArrAt ((v4.setRow g4 (iA fX)).setRow g5 (iA fY)) g5 (iA fY) := ArrAt.row (ArrAt.other A4 (iA fX) hne) (iA fY)
                refine wpAnyH_ready (rs := [6]) (by kernel_rfl) (by simp) ?_
                refine AllReadyH.cons rfl (fun K hK => ?_) AllReadyH.nil
                go_simp
                refine hK.out _ _ (SB.out _ C8) (fun hHeld => ?_)
                clear hK K
                try simp only [Act.put, List.getElem_toArray, List.getElem_cons_zero, List.getElem_cons_succ, List.setIfInBounds_toArray, List.set_cons_zero, List.set_cons_succ]
                refine wpAnyH_ready (rs := [7]) (by kernel_rfl) (by simp) ?_
                refine AllReadyH.cons rfl (fun K hK => ?_) AllReadyH.nil
                go_simp
                refine hK.out _ _ (SB.out _ C9) (fun hHeld => ?_)
                clear hK K
                try simp only [Act.put, List.getElem_toArray, List.getElem_cons_zero, List.getElem_cons_succ, List.setIfInBounds_toArray, List.set_cons_zero, List.set_cons_succ]
                refine wpAnyH_done (by kernel_rfl) ?_ _
                go_wp2_with fail
                go_meet
                exact ⟨g4, g5, rfl, rfl, R10, R11, C9⟩
              · skip
                go_simp
                have A3 : ArrAt (v2.alloc (.cells (iA fun _ => 0) 90)) v2.heap.size (iA fun _ => 0) := ArrAt.new v2 _ _
                have C3 : Below ws.heap.size ws (v2.alloc (.cells (iA fun _ => 0) 90)) := below_tr C2 (bx _ _)
                have L3 : ws.heap.size ≤ v2.heap.size := C2.size
                have N4_3 : ArrAt (v2.alloc (.cells (iA fun _ => 0) 90)) g4 (iA fun _ => 0) := N4_2.below (bx _ _)
                have od3 := ArrAt.lt N4_2
                refine hK.out _ _ (SB.out _ C3) (fun hHeld => ?_)
                clear hK K
                try simp only [Act.put, List.getElem_toArray, List.getElem_cons_zero, List.getElem_cons_succ, List.setIfInBounds_toArray, List.set_cons_zero, List.set_cons_succ]
                obtain ⟨g5, hg5⟩ : ∃ g, g = v2.heap.size := ⟨_, rfl⟩
                obtain ⟨v3, hw3⟩ : ∃ x, x = v2.alloc (.cells (iA fun _ => 0) 90) := ⟨_, rfl⟩
                rw [← hg5] at A3 L3 od3 ⊢
                rw [← hw3] at A3 C3 N4_3 ⊢
                clear hg5 hw3
                refine wpAnyH_ready (rs := [3]) (by kernel_rfl) (by simp) ?_
                refine AllReadyH.cons rfl (fun K hK => ?_) AllReadyH.nil
                go_simp
                refine (KL2.out _ C3).mono ?_
                rintro r v4 ⟨rfl, hv4⟩
                have C4 : Below ws.heap.size ws v4 := below_tr C3 hv4
                have N4_4 := N4_3.below hv4
                have N5_4 := A3.below hv4
                clear hv4
                refine hK.out _ _ (SB.out _ C4) (fun hHeld => ?_)
                clear hK K
                try simp only [Act.put, List.getElem_toArray, List.getElem_cons_zero, List.getElem_cons_succ, List.setIfInBounds_toArray, List.set_cons_zero, List.set_cons_succ]
                have hne : g5 ≠ g4 := by have := od3; omega
                have sta := run_storeI (f := fX) N4_4
                have stb := run_storeI (f := fY) (ArrAt.other N5_4 (iA fX) hne)
                have C8 : Below ws.heap.size ws (v4.setRow g4 (iA fX)) := Below.row C4 L1 _
                have C9 : Below ws.heap.size ws ((v4.setRow g4 (iA fX)).setRow g5 (iA fY)) := Below.row C8 L3 _
                have R10 : ArrAt ((v4.setRow g4 (iA fX)).setRow g5 (iA fY)) g4 (iA fX) := ArrAt.other (ArrAt.row N4_4 (iA fX)) (iA fY) (fun h => hne h.symm)
                have R11 : ArrAt ((v4.setRow g4 (iA fX)).setRow g5 (iA fY)) g5 (iA fY) := ArrAt.row (ArrAt.other N5_4 (iA fX) hne) (iA fY)
                refine wpAnyH_ready (rs := [6]) (by kernel_rfl) (by simp) ?_
                refine AllReadyH.cons rfl (fun K hK => ?_) AllReadyH.nil
                go_simp
                refine hK.out _ _ (SB.out _ C8) (fun hHeld => ?_)
                clear hK K
                try simp only [Act.put, List.getElem_toArray, List.getElem_cons_zero, List.getElem_cons_succ, List.setIfInBounds_toArray, List.set_cons_zero, List.set_cons_succ]
                refine wpAnyH_ready (rs := [7]) (by kernel_rfl) (by simp) ?_
                refine AllReadyH.cons rfl (fun K hK => ?_) AllReadyH.nil
                go_simp
                refine hK.out _ _ (SB.out _ C9) (fun hHeld => ?_)
                clear hK K
                try simp only [Act.put, List.getElem_toArray, List.getElem_cons_zero, List.getElem_cons_succ, List.setIfInBounds_toArray, List.set_cons_zero, List.set_cons_succ]
                refine wpAnyH_done (by kernel_rfl) ?_ _
                go_wp2_with fail
                go_meet
                exact ⟨g4, g5, rfl, rfl, R10, R11, C9⟩
            · skip
              go_simp
              have A2 : ArrAt (v1.alloc (.cells (iA fun _ => 0) 90)) v1.heap.size (iA fun _ => 0) := ArrAt.new v1 _ _
              have C2 : Below ws.heap.size ws (v1.alloc (.cells (iA fun _ => 0) 90)) := below_tr C1 (bx _ _)
              have L2 : ws.heap.size ≤ v1.heap.size := C1.size
              have N4_2 : ArrAt (v1.alloc (.cells (iA fun _ => 0) 90)) g4 (iA fun _ => 0) := A1.below (bx _ _)
              have od2 := ArrAt.lt A1
              refine hK.out _ _ (SB.out _ C2) (fun hHeld => ?_)
              clear hK K
              try simp only [Act.put, List.getElem_toArray, List.getElem_cons_zero, List.getElem_cons_succ, List.setIfInBounds_toArray, List.set_cons_zero, List.set_cons_succ]
              obtain ⟨g5, hg5⟩ : ∃ g, g = v1.heap.size := ⟨_, rfl⟩
              obtain ⟨v2, hw2⟩ : ∃ x, x = v1.alloc (.cells (iA fun _ => 0) 90) := ⟨_, rfl⟩
              rw [← hg5] at A2 L2 od2 ⊢
              rw [← hw2] at A2 C2 N4_2 ⊢
              clear hg5 hw2
              refine wpAnyH_ready (rs := [1]) (by kernel_rfl) (by simp) ?_
              refine AllReadyH.cons rfl (fun K hK => ?_) AllReadyH.nil
              go_simp
              refine (KL1.out _ C2).mono ?_
              rintro r v3 ⟨rfl, hv3⟩
              have C3 : Below ws.heap.size ws v3 := below_tr C2 hv3
              have N4_3 := N4_2.below hv3
              have N5_3 := A2.below hv3
              clear hv3
              refine hK.out _ _ (SB.out _ C3) (fun hHeld => ?_)
              clear hK K
              try simp only [Act.put, List.getElem_toArray, List.getElem_cons_zero, List.getElem_cons_succ, List.setIfInBounds_toArray, List.set_cons_zero, List.set_cons_succ]
              refine wpAnyH_ready (rs := [3]) (by kernel_rfl) (by simp) ?_
              refine AllReadyH.cons rfl (fun K hK => ?_) AllReadyH.nil
              go_simp
              refine (KL2.out _ C3).mono ?_
              rintro r v4 ⟨rfl, hv4⟩
              have C4 : Below ws.heap.size ws v4 := below_tr C3 hv4
              have N4_4 := N4_3.below hv4
              have N5_4 := N5_3.below hv4
              clear hv4
              refine hK.out _ _ (SB.out _ C4) (fun hHeld => ?_)
              clear hK K
              try simp only [Act.put, List.getElem_toArray, List.getElem_cons_zero, List.getElem_cons_succ, List.setIfInBounds_toArray, List.set_cons_zero, List.set_cons_succ]
              have hne : g5 ≠ g4 := by have := od2; omega
              have sta := run_storeI (f := fX) N4_4
              have stb := run_storeI (f := fY) (ArrAt.other N5_4 (iA fX) hne)
              have C8 : Below ws.heap.size ws (v4.setRow g4 (iA fX)) := Below.row C4 L1 _
              have C9 : Below ws.heap.size ws ((v4.setRow g4 (iA fX)).setRow g5 (iA fY)) := Below.row C8 L2 _
              have R10 : ArrAt ((v4.setRow g4 (iA fX)).setRow g5 (iA fY)) g4 (iA fX) := ArrAt.other (ArrAt.row N4_4 (iA fX)) (iA fY) (fun h => hne h.symm)
              have R11 : ArrAt ((v4.setRow g4 (iA fX)).setRow g5 (iA fY)) g5 (iA fY) := ArrAt.row (ArrAt.other N5_4 (iA fX) hne) (iA fY)
              refine wpAnyH_ready (rs := [6]) (by kernel_rfl) (by simp) ?_
              refine AllReadyH.cons rfl (fun K hK => ?_) AllReadyH.nil
              go_simp
              refine hK.out _ _ (SB.out _ C8) (fun hHeld => ?_)
              clear hK K
              try simp only [Act.put, List.getElem_toArray, List.getElem_cons_zero, List.getElem_cons_succ, List.setIfInBounds_toArray, List.set_cons_zero, List.set_cons_succ]
              refine wpAnyH_ready (rs := [7]) (by kernel_rfl) (by simp) ?_
              refine AllReadyH.cons rfl (fun K hK => ?_) AllReadyH.nil
              go_simp
              refine hK.out _ _ (SB.out _ C9) (fun hHeld => ?_)
              clear hK K
              try simp only [Act.put, List.getElem_toArray, List.getElem_cons_zero, List.getElem_cons_succ, List.setIfInBounds_toArray, List.set_cons_zero, List.set_cons_succ]
              refine wpAnyH_done (by kernel_rfl) ?_ _
              go_wp2_with fail
              go_meet
              exact ⟨g4, g5, rfl, rfl, R10, R11, C9⟩
          · skip
            go_simp
            have A1 : ArrAt (v0.alloc (.cells (iA fun _ => 0) 90)) v0.heap.size (iA fun _ => 0) := ArrAt.new v0 _ _
            have C1 : Below ws.heap.size ws (v0.alloc (.cells (iA fun _ => 0) 90)) := below_tr BD (bx _ _)
            have L1 : ws.heap.size ≤ v0.heap.size := BD.size
            refine hK.out _ _ (SB.out _ C1) (fun hHeld => ?_)
            clear hK K
            try simp only [Act.put, List.getElem_toArray, List.getElem_cons_zero, List.getElem_cons_succ, List.setIfInBounds_toArray, List.set_cons_zero, List.set_cons_succ]
            obtain ⟨g5, hg5⟩ : ∃ g, g = v0.heap.size := ⟨_, rfl⟩
            obtain ⟨v1, hw1⟩ : ∃ x, x = v0.alloc (.cells (iA fun _ => 0) 90) := ⟨_, rfl⟩
            rw [← hg5] at A1 L1 ⊢
            rw [← hw1] at A1 C1 ⊢
            clear hg5 hw1
            refine wpAnyH_ready (rs := [1, 4]) (by kernel_rfl) (by simp) ?_
            refine AllReadyH.cons rfl (fun K hK => ?_) (AllReadyH.cons rfl (fun K hK => ?_) AllReadyH.nil)
            · skip
              go_simp
              refine (KL1.out _ C1).mono ?_
              rintro r v2 ⟨rfl, hv2⟩
              have C2 : Below ws.heap.size ws v2 := below_tr C1 hv2
              have N5_2 := A1.below hv2
              clear hv2
              refine hK.out _ _ (SB.out _ C2) (fun hHeld => ?_)
              clear hK K
              try simp only [Act.put, List.getElem_toArray, List.getElem_cons_zero, List.getElem_cons_succ, List.setIfInBounds_toArray, List.set_cons_zero, List.set_cons_succ]
              refine wpAnyH_ready (rs := [3, 4]) (by kernel_rfl) (by simp) ?_
              refine AllReadyH.cons rfl (fun K hK => ?_) (AllReadyH.cons rfl (fun K hK => ?_) AllReadyH.nil)
              · skip
                go_simp
                refine (KL2.out _ C2).mono ?_
                rintro r v3 ⟨rfl, hv3⟩
                have C3 : Below ws.heap.size ws v3 := below_tr C2 hv3
                have N5_3 := N5_2.below hv3
                clear hv3
                refine hK.out _ _ (SB.out _ C3) (fun hHeld => ?_)
                clear hK K
                try simp only [Act.put, List.getElem_toArray, List.getElem_cons_zero, List.getElem_cons_succ, List.setIfInBounds_toArray, List.set_cons_zero, List.set_cons_succ]
                refine wpAnyH_ready (rs := [4]) (by kernel_rfl) (by simp) ?_
                refine AllReadyH.cons rfl (fun K hK => ?_) AllReadyH.nil
                go_simp
                have A4 : ArrAt (v3.alloc (.cells (iA fun _ => 0) 90)) v3.heap.size (iA fun _ => 0) := ArrAt.new v3 _ _
                have C4 : Below ws.heap.size ws (v3.alloc (.cells (iA fun _ => 0) 90)) := below_tr C3 (bx _ _)
                have L4 : ws.heap.size ≤ v3.heap.size := C3.size
                have N5_4 : ArrAt (v3.alloc (.cells (iA fun _ => 0) 90)) g5 (iA fun _ => 0) := N5_3.below (bx _ _)
                have od4 := ArrAt.lt N5_3
                refine hK.out _ _ (SB.out _ C4) (fun hHeld => ?_)
                clear hK K
                try simp only [Act.put, List.getElem_toArray, List.getElem_cons_zero, List.getElem_cons_succ, List.setIfInBounds_toArray, List.set_cons_zero, List.set_cons_succ]
                obtain ⟨g4, hg4⟩ : ∃ g, g = v3.heap.size := ⟨_, rfl⟩
                obtain ⟨v4, hw4⟩ : ∃ x, x = v3.alloc (.cells (iA fun _ => 0) 90) := ⟨_, rfl⟩
                rw [← hg4] at A4 L4 od4 ⊢
                rw [← hw4] at A4 C4 N5_4 ⊢
                clear hg4 hw4
                have hne : g5 ≠ g4 := by have := od4; omega
                have sta := run_storeI (f := fX) A4
                have stb := run_storeI (f := fY) (ArrAt.other N5_4 (iA fX) hne)
                have C8 : Below ws.heap.size ws (v4.setRow g4 (iA fX)) := Below.row C4 L4 _
                have C9 : Below ws.heap.size ws ((v4.setRow g4 (iA fX)).setRow g5 (iA fY)) := Below.row C8 L1 _
                have R10 : ArrAt ((v4.setRow g4 (iA fX)).setRow g5 (iA fY)) g4 (iA fX) := ArrAt.other (ArrAt.row A4 (iA fX)) (iA fY) (fun h => hne h.symm)
                have R11 : ArrAt ((v4.setRow g4 (iA fX)).setRow g5 (iA fY)) g5 (iA fY) := ArrAt.row (ArrAt.other N5_4 (iA fX) hne) (iA fY)
                refine wpAnyH_ready (rs := [6]) (by kernel_rfl) (by simp) ?_
                refine AllReadyH.cons rfl (fun K hK => ?_) AllReadyH.nil
                go_simp
                refine hK.out _ _ (SB.out _ C8) (fun hHeld => ?_)
                clear hK K
                try simp only [Act.put, List.getElem_toArray, List.getElem_cons_zero, List.getElem_cons_succ, List.setIfInBounds_toArray, List.set_cons_zero, List.set_cons_succ]
                refine wpAnyH_ready (rs := [7]) (by kernel_rfl) (by simp) ?_
                refine AllReadyH.cons rfl (fun K hK => ?_) AllReadyH.nil
                go_simp
                refine hK.out _ _ (SB.out _ C9) (fun hHeld => ?_)
                clear hK K
                try simp only [Act.put, List.getElem_toArray, List.getElem_cons_zero, List.getElem_cons_succ, List.setIfInBounds_toArray, List.set_cons_zero, List.set_cons_succ]
                refine wpAnyH_done (by kernel_rfl) ?_ _
                go_wp2_with fail
                go_meet
                exact ⟨g4, g5, rfl, rfl, R10, R11, C9⟩
              · skip
                go_simp
                have A3 : ArrAt (v2.alloc (.cells (iA fun _ => 0) 90)) v2.heap.size (iA fun _ => 0) := ArrAt.new v2 _ _
                have C3 : Below ws.heap.size ws (v2.alloc (.cells (iA fun _ => 0) 90)) := below_tr C2 (bx _ _)
                have L3 : ws.heap.size ≤ v2.heap.size := C2.size
                have N5_3 : ArrAt (v2.alloc (.cells (iA fun _ => 0) 90)) g5 (iA fun _ => 0) := N5_2.below (bx _ _)
                have od3 := ArrAt.lt N5_2
                refine hK.out _ _ (SB.out _ C3) (fun hHeld => ?_)
                clear hK K
                try simp only [Act.put, List.getElem_toArray, List.getElem_cons_zero, List.getElem_cons_succ, List.setIfInBounds_toArray, List.set_cons_zero, List.set_cons_succ]
                obtain ⟨g4, hg4⟩ : ∃ g, g = v2.heap.size := ⟨_, rfl⟩
                obtain ⟨v3, hw3⟩ : ∃ x, x = v2.alloc (.cells (iA fun _ => 0) 90) := ⟨_, rfl⟩
                rw [← hg4] at A3 L3 od3 ⊢
                rw [← hw3] at A3 C3 N5_3 ⊢
                clear hg4 hw3
                refine wpAnyH_ready (rs := [3]) (by kernel_rfl) (by simp) ?_
                refine AllReadyH.cons rfl (fun K hK => ?_) AllReadyH.nil
                go_simp
                refine (KL2.out _ C3).mono ?_
                rintro r v4 ⟨rfl, hv4⟩
                have C4 : Below ws.heap.size ws v4 := below_tr C3 hv4
                have N5_4 := N5_3.below hv4
                have N4_4 := A3.below hv4
                clear hv4
                refine hK.out _ _ (SB.out _ C4) (fun hHeld => ?_)
                clear hK K
                try simp only [Act.put, List.getElem_toArray, List.getElem_cons_zero, List.getElem_cons_succ, List.setIfInBounds_toArray, List.set_cons_zero, List.set_cons_succ]
                have hne : g5 ≠ g4 := by have := od3; omega
                have sta := run_storeI (f := fX) N4_4
                have stb := run_storeI (f := fY) (ArrAt.other N5_4 (iA fX) hne)
                have C8 : Below ws.heap.size ws (v4.setRow g4 (iA fX)) := Below.row C4 L3 _
                have C9 : Below ws.heap.size ws ((v4.setRow g4 (iA fX)).setRow g5 (iA fY)) := Below.row C8 L1 _
                have R10 : ArrAt ((v4.setRow g4 (iA fX)).setRow g5 (iA fY)) g4 (iA fX) := ArrAt.other (ArrAt.row N4_4 (iA fX)) (iA fY) (fun h => hne h.symm)
                have R11 : ArrAt ((v4.setRow g4 (iA fX)).setRow g5 (iA fY)) g5 (iA fY) := ArrAt.row (ArrAt.other N5_4 (iA fX) hne) (iA fY)
                refine wpAnyH_ready (rs := [6]) (by kernel_rfl) (by simp) ?_
                refine AllReadyH.cons rfl (fun K hK => ?_) AllReadyH.nil
                go_simp
                refine hK.out _ _ (SB.out _ C8) (fun hHeld => ?_)
                clear hK K
                try simp only [Act.put, List.getElem_toArray, List.getElem_cons_zero, List.getElem_cons_succ, List.setIfInBounds_toArray, List.set_cons_zero, List.set_cons_succ]
                refine wpAnyH_ready (rs := [7]) (by kernel_rfl) (by simp) ?_
                refine AllReadyH.cons rfl (fun K hK => ?_) AllReadyH.nil
                go_simp
                refine hK.out _ _ (SB.out _ C9) (fun hHeld => ?_)
                clear hK K
                try simp only [Act.put, List.getElem_toArray, List.getElem_cons_zero, List.getElem_cons_succ, List.setIfInBounds_toArray, List.set_cons_zero, List.set_cons_succ]
                refine wpAnyH_done (by kernel_rfl) ?_ _
                go_wp2_with fail
                go_meet
                exact ⟨g4, g5, rfl, rfl, R10, R11, C9⟩
            · skip
              go_simp
              have A2 : ArrAt (v1.alloc (.cells (iA fun _ => 0) 90)) v1.heap.size (iA fun _ => 0) := ArrAt.new v1 _ _
              have C2 : Below ws.heap.size ws (v1.alloc (.cells (iA fun _ => 0) 90)) := below_tr C1 (bx _ _)
              have L2 : ws.heap.size ≤ v1.heap.size := C1.size
              have N5_2 : ArrAt (v1.alloc (.cells (iA fun _ => 0) 90)) g5 (iA fun _ => 0) := A1.below (bx _ _)
              have od2 := ArrAt.lt A1
              refine hK.out _ _ (SB.out _ C2) (fun hHeld => ?_)
              clear hK K
              try simp only [Act.put, List.getElem_toArray, List.getElem_cons_zero, List.getElem_cons_succ, List.setIfInBounds_toArray, List.set_cons_zero, List.set_cons_succ]
              obtain ⟨g4, hg4⟩ : ∃ g, g = v1.heap.size := ⟨_, rfl⟩
              obtain ⟨v2, hw2⟩ : ∃ x, x = v1.alloc (.cells (iA fun _ => 0) 90) := ⟨_, rfl⟩
              rw [← hg4] at A2 L2 od2 ⊢
              rw [← hw2] at A2 C2 N5_2 ⊢
              clear hg4 hw2
              refine wpAnyH_ready (rs := [1]) (by kernel_rfl) (by simp) ?_
              refine AllReadyH.cons rfl (fun K hK => ?_) AllReadyH.nil
              go_simp
              refine (KL1.out _ C2).mono ?_
              rintro r v3 ⟨rfl, hv3⟩
              have C3 : Below ws.heap.size ws v3 := below_tr C2 hv3
              have N5_3 := N5_2.below hv3
              have N4_3 := A2.below hv3
              clear hv3
              refine hK.out _ _ (SB.out _ C3) (fun hHeld => ?_)
              clear hK K
              try simp only [Act.put, List.getElem_toArray, List.getElem_cons_zero, List.getElem_cons_succ, List.setIfInBounds_toArray, List.set_cons_zero, List.set_cons_succ]
              refine wpAnyH_ready (rs := [3]) (by kernel_rfl) (by simp) ?_
              refine AllReadyH.cons rfl (fun K hK => ?_) AllReadyH.nil
              go_simp
              refine (KL2.out _ C3).mono ?_
              rintro r v4 ⟨rfl, hv4⟩
              have C4 : Below ws.heap.size ws v4 := below_tr C3 hv4
              have N5_4 := N5_3.below hv4
              have N4_4 := N4_3.below hv4
              clear hv4
              refine hK.out _ _ (SB.out _ C4) (fun hHeld => ?_)
              clear hK K
              try simp only [Act.put, List.getElem_toArray, List.getElem_cons_zero, List.getElem_cons_succ, List.setIfInBounds_toArray, List.set_cons_zero, List.set_cons_succ]
              have hne : g5 ≠ g4 := by have := od2; omega
              have sta := run_storeI (f := fX) N4_4
              have stb := run_storeI (f := fY) (ArrAt.other N5_4 (iA fX) hne)
              have C8 : Below ws.heap.size ws (v4.setRow g4 (iA fX)) := Below.row C4 L2 _
              have C9 : Below ws.heap.size ws ((v4.setRow g4 (iA fX)).setRow g5 (iA fY)) := Below.row C8 L1 _
              have R10 : ArrAt ((v4.setRow g4 (iA fX)).setRow g5 (iA fY)) g4 (iA fX) := ArrAt.other (ArrAt.row N4_4 (iA fX)) (iA fY) (fun h => hne h.symm)
              have R11 : ArrAt ((v4.setRow g4 (iA fX)).setRow g5 (iA fY)) g5 (iA fY) := ArrAt.row (ArrAt.other N5_4 (iA fX) hne) (iA fY)
              refine wpAnyH_ready (rs := [6]) (by kernel_rfl) (by simp) ?_
              refine AllReadyH.cons rfl (fun K hK => ?_) AllReadyH.nil
              go_simp
              refine hK.out _ _ (SB.out _ C8) (fun hHeld => ?_)
              clear hK K
              try simp only [Act.put, List.getElem_toArray, List.getElem_cons_zero, List.getElem_cons_succ, List.setIfInBounds_toArray, List.set_cons_zero, List.set_cons_succ]
              refine wpAnyH_ready (rs := [7]) (by kernel_rfl) (by simp) ?_
              refine AllReadyH.cons rfl (fun K hK => ?_) AllReadyH.nil
              go_simp
              refine hK.out _ _ (SB.out _ C9) (fun hHeld => ?_)
              clear hK K
              try simp only [Act.put, List.getElem_toArray, List.getElem_cons_zero, List.getElem_cons_succ, List.setIfInBounds_toArray, List.set_cons_zero, List.set_cons_succ]
              refine wpAnyH_done (by kernel_rfl) ?_ _
              go_wp2_with fail
              go_meet
              exact ⟨g4, g5, rfl, rfl, R10, R11, C9⟩
        case rest =>
          obtain ⟨bp, bq, rfl, rfl, R10, R11, C9⟩ := hcut
          have A9 : Hid (ArrAt wc bp (iA fX) ∧ ArrAt wc bq (iA fY) ∧ RaAt w wc a1 a2 c1 c2 X Y xa ya) := ⟨R10, R11, hA.out.below C9⟩
          clear R10 R11 C9 hA KL1 KL2 SB BD
          go_wp2_with fail
          go_loopw [12, 51] (fun _ i wr => ∃ k : Nat, k ≤ 20 ∧ i = .int .i64 (k : Int) ∧ Hid (∀ j, j < k → Se.lstM X j = Se.lstM Y j) ∧ Hid (ArrAt wr bp (iA fX) ∧ ArrAt wr bq (iA fY) ∧ RaAt w wr a1 a2 c1 c2 X Y xa ya)) (fun _ i _ => 20 - (intOf i).toNat)
          case atStart => exact ⟨0, Nat.zero_le _, rfl, fun j hj => by omega, A9⟩
          case round =>
            clear A9
            obtain ⟨k, hk, rfl, hS, hA⟩ := hrel
            by_cases hlt : k < 20
            rotate_left
            · obtain rfl : k = 20 := by omega
              have HT : Hid (Z = true) := HZ.out.trans (alike_all HLn.out hS.out hD2.out)
              have HB := hid hA.out.2.2.bel
              clear hS hA
              go_wp2_with fail
              go_ret
              exact ⟨by rw [HT.out]; rfl, HB.out⟩
            have k0 : (0 : Int) ≤ (k : Int) := by omega
            have k1 : (k : Int) < 20 := by omega
            have KS := hid fun W (hW : Below wr.heap.size wr W) => sameOp_any W a1 a2 c1 c2 X Y (Se.lst X k) (Se.lst Y k) (H1.out.below (hA.out.2.2.below hW).bel) (H2.out.below (hA.out.2.2.below hW).bel) HV1.out HV2.out hcap1 hcap2 (fun _ h => Se.wrI_lt h) (fun _ h => Se.wrI_lt h)
            have g1 : fX k = wrN (Se.lst X k) := by rw [HfX.out]; rfl
            have g2 : fY k = wrN (Se.lst Y k) := by rw [HfY.out]; rfl
            obtain ⟨D, hDe⟩ : ∃ D, D = decide (Se.nmO X (Se.lst X k) = Se.nmO Y (Se.lst Y k)) := ⟨_, rfl⟩
            have HNo : Hid (D = false → Z = false) := fun h => HZ.out.trans (alike_lst hlt (by rw [← h, hDe]; rfl))
            have HYe : Hid (D = true → Se.lstM X k = Se.lstM Y k) := fun h => of_decide_eq_true (by rw [← h, hDe]; rfl)
            rw [← g1, ← g2, ← hDe] at KS
            clear hDe g1 g2
            obtain ⟨u, hu⟩ : ∃ u, u = fX k := ⟨_, rfl⟩
            obtain ⟨v, hv⟩ : ∃ v, v = fY k := ⟨_, rfl⟩
            rw [← hu, ← hv] at KS
            have SB : Hid (∀ W, Below wr.heap.size wr W → W.cell? ⟨w.heap.size, 0, none⟩ = some (.slice a1 X.length c1) ∧ W.cell? ⟨w.heap.size + 1, 0, none⟩ = some (.slice a2 Y.length c2) ∧ W.cell? ⟨bp, k, none⟩ = some (.int .i64 u) ∧ W.cell? ⟨bq, k, none⟩ = some (.int .i64 v)) := fun W hW =>
              ⟨(hA.out.2.2.below hW).b1.cell rfl, (hA.out.2.2.below hW).b2.cell rfl, by rw [hu]; exact (hA.out.1.below hW).cell (iA_at fX hlt), by rw [hv]; exact (hA.out.2.1.below hW).cell (iA_at fY hlt)⟩
            have fin : Hid (∀ W, Below wr.heap.size wr W → ArrAt W bp (iA fX) ∧ ArrAt W bq (iA fY) ∧ RaAt w W a1 a2 c1 c2 X Y xa ya) := fun W hW => ⟨hA.out.1.below hW, hA.out.2.1.below hW, hA.out.2.2.below hW⟩
            have BD : Below wr.heap.size wr wr.drew := (Below.refl _ _).drew
            clear hu hv hA
            go_upto_region 15 with fail
            go_region_held3 (fun W => W.cell? ⟨w.heap.size, 0, none⟩ = some (.slice a1 X.length c1) ∧ W.cell? ⟨w.heap.size + 1, 0, none⟩ = some (.slice a2 Y.length c2) ∧ W.cell? ⟨bp, k, none⟩ = some (.int .i64 u) ∧ W.cell? ⟨bq, k, none⟩ = some (.int .i64 v))
              ((refine SB.out _ ?_; assumption))
              ((go_at_call 98; refine (KS.out _ BD).mono ?_; rintro r w8 ⟨rfl, hb8⟩; have B8 : Below wr.heap.size wr w8 := below_tr BD hb8; clear hb8))
            all_goals
              have A8 := hid (fin.out _ B8)
              clear fin SB B8 BD KS
              cases D with
              | false =>
                have HF : Hid (Z = false) := HNo.out rfl
                clear HNo HYe hS
                go_wp2_with fail
                go_ret
                exact ⟨by rw [HF.out]; rfl, A8.out.2.2.bel⟩
              | true =>
                have hS2 : Hid (∀ j, j < k + 1 → Se.lstM X j = Se.lstM Y j) := fun j hj => by
                  by_cases e : j = k
                  · subst e; exact HYe.out rfl
                  · exact hS.out j (by omega)
                clear HNo HYe hS
                go_wp2_with fail
                go_roundw
                case rel => exact ⟨k + 1, by omega, by go_num, hS2, A8⟩
                case measure => simp [intOf]; omega
end Go.Proofs.Ytlalpahfoafhoab.PSee
