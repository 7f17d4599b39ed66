/- (view).same, see.Alike, walked: they answer what the plain words say, and nothing that was there has turned. Conditions: the operations lie where their slices say; the capacities are no less than the lengths. -/
import Derived.Test.YtlalpahfoafhoabSeeVw
namespace Go.Proofs.Ytlalpahfoafhoab.PSee
open Go Go.RowKit PPool PGraph PRun
set_option maxRecDepth 100000

attribute [local go_sem ↓] loadI_pre storeI_pre loadV_pre storeV_pre loadN_pre
/-- Two views are the same. -/
def allEq (g g' : Nat → Gr.Ed) : Bool := (List.range 20).all fun i => decide (g i = g' i)
def inL (L : List (Gr.Ed × Gr.Ed)) (e : Gr.Ed × Gr.Ed) : Bool := L.any fun d => decide (e = d)
def sameV (L L' : List (Gr.Ed × Gr.Ed)) (g g' : Nat → Gr.Ed) : Bool := decide (L.length = L'.length) && allEq g g' && L.all (inL L')
theorem sameV_len {L L' : List (Gr.Ed × Gr.Ed)} {g g' : Nat → Gr.Ed} (h : ¬ L.length = L'.length) : sameV L L' g g' = false := by unfold sameV; rw [decide_eq_false h]; rfl
theorem sameV_eq {L L' : List (Gr.Ed × Gr.Ed)} {g g' : Nat → Gr.Ed} (h : allEq g g' = false) : sameV L L' g g' = false := by unfold sameV; rw [h]; simp
theorem sameV_not {L L' : List (Gr.Ed × Gr.Ed)} {g g' : Nat → Gr.Ed} {e : Gr.Ed × Gr.Ed} (he : e ∈ L) (h : inL L' e = false) : sameV L L' g g' = false := by
  unfold sameV
  have : L.all (inL L') = false := Bool.eq_false_iff.2 fun ha => by
    have := List.all_eq_true.1 ha e he
    rw [h] at this; cases this
  rw [this]; simp
theorem sameV_all {L L' : List (Gr.Ed × Gr.Ed)} {g g' : Nat → Gr.Ed} (h1 : L.length = L'.length) (h2 : allEq g g' = true) (h : ∀ e ∈ L, inL L' e = true) : sameV L L' g g' = true := by
  unfold sameV; rw [decide_eq_true h1, h2, List.all_eq_true.2 h]; rfl
theorem inL_iff {L : List (Gr.Ed × Gr.Ed)} {e : Gr.Ed × Gr.Ed} : inL L e = true ↔ e ∈ L := by
  unfold inL
  rw [List.any_eq_true]
  constructor
  · rintro ⟨d, hd, h⟩; rw [of_decide_eq_true h]; exact hd
  · exact fun h => ⟨e, h, by simp⟩

/-- How all stands while the entries are looked at. -/
structure SmAt (w W : World) (B1 B2 R : Nat) (L1 L2 : List (Gr.Ed × Gr.Ed)) (g1 g2 : Nat → Gr.Ed) (left : Gr.Ed → Bool) (cnt : Nat) : Prop where
  v1 : ArrAt W w.heap.size (vA (.map (some B1)) g1)
  v2 : ArrAt W (w.heap.size + 1) (vA (.map (some B2)) g2)
  rg : Rg W B1 R L1 left cnt
  mp : MpAt W B2 L2
  bel : Below w.heap.size w W
  lo : w.heap.size + 1 < R ∧ B2 < w.heap.size
  done : ∀ e d, (e, d) ∈ L1 → left e = false → inL L2 (e, d) = true
theorem SmAt.below {w W W' : World} {B1 B2 R : Nat} {L1 L2 : List (Gr.Ed × Gr.Ed)} {g1 g2 : Nat → Gr.Ed} {left : Gr.Ed → Bool} {cnt : Nat} (h : SmAt w W B1 B2 R L1 L2 g1 g2 left cnt) (hb : Below W.heap.size W W') : SmAt w W' B1 B2 R L1 L2 g1 g2 left cnt :=
  ⟨h.v1.below hb, h.v2.below hb, h.rg.below hb, h.mp.below hb, below_tr h.bel hb, h.lo, h.done⟩
/-- What the look-up in the other view tells. -/
theorem look_in {L2 : List (Gr.Ed × Gr.Ed)} {e d u : Gr.Ed} (h : ∀ x, (e, x) ∈ L2 → u = x) : inL L2 (e, d) = (decide (e ∈ L2.map Prod.fst) && decide (u = d)) := by
  apply Bool.eq_iff_iff.2
  rw [inL_iff, Bool.and_eq_true, decide_eq_true_eq, decide_eq_true_eq]
  constructor
  · intro hm; exact ⟨List.mem_map.2 ⟨(e, d), hm, rfl⟩, h d hm⟩
  · rintro ⟨hm, rfl⟩
    obtain ⟨⟨e', x⟩, hx, rfl⟩ := List.mem_map.1 hm
    have := h x hx
    rw [this]; exact hx

set_option maxHeartbeats 8000000 in
theorem same_any (w : World) (B1 B2 : Nat) (L1 L2 : List (Gr.Ed × Gr.Ed)) (g1 g2 : Nat → Gr.Ed) (h1 : MpAt w B1 L1) (h2 : MpAt w B2 L2) (s1 : ∀ i, i < 20 → Small (g1 i)) (s2 : ∀ i, i < 20 → Small (g2 i))
    (p1 : ∀ e ∈ L1, Small e.1 ∧ Small e.2) (p2 : ∀ e ∈ L2, Small e.2) :
    Calls Try.prog 91 #[.agg (vA (.map (some B1)) g1), .agg (vA (.map (some B2)) g2)] w fun e w' => e = .returned (.bool (sameV L1 L2 g1 g2)) ∧ Below w.heap.size w w' := by
  obtain ⟨Y, hY⟩ : ∃ Y, Y = sameV L1 L2 g1 g2 := ⟨_, rfl⟩
  rw [← hY]
  have HY := hid hY
  have P1 := hid p1
  have P2 := hid p2
  have heq0 := names_eq s1 s2
  have hB2 := h2.lt
  have U1 := hid fun (e d u : Gr.Ed) (a : (e, d) ∈ L1) (b : (e, u) ∈ L1) => h1.uniq a b
  obtain ⟨W0, hW0⟩ : ∃ W0, W0 = (w.alloc (.cells (vA (.map (some B1)) g1) 154)).alloc (.cells (vA (.map (some B2)) g2) 154) := ⟨_, rfl⟩
  have A0 : Hid (ArrAt W0 w.heap.size (vA (.map (some B1)) g1) ∧ ArrAt W0 (w.heap.size + 1) (vA (.map (some B2)) g2) ∧ MpAt W0 B1 L1 ∧ MpAt W0 B2 L2 ∧ Below w.heap.size w W0) := by
    subst hW0
    refine ⟨(ArrAt.new w _ _).below (bx _ _), ?_, h1.below (bx2 _ _ _), h2.below (bx2 _ _ _), bx2 _ _ _⟩
    have := ArrAt.new (w.alloc (.cells (vA (.map (some B1)) g1) 154)) (vA (.map (some B2)) g2) 154
    rwa [show (w.alloc (.cells (vA (.map (some B1)) g1) 154)).heap.size = w.heap.size + 1 by simp] at this
  have c1 := A0.out.1.cell (vA_map _ _)
  have c2 := A0.out.2.1.cell (vA_map _ _)
  have l1 := fun ty => A0.out.2.2.1.len ty
  have l2 := fun ty => A0.out.2.2.2.1.len ty
  have n1 := run_loadN A0.out.1
  have n2 : (loadN (.pointer (some ⟨w.heap.size + 1, 1, none⟩))).run Try.prog W0 = .ok (.agg (nA g2).toArray) W0 := run_loadN A0.out.2.1
  have heq := heq0 W0
  rw [show ((List.range 20).all fun i => decide (g1 i = g2 i)) = allEq g1 g2 from rfl] at heq
  clear hY p1 p2 s1 s2 h1 h2 heq0
  by_cases hl : L1.length = L2.length
  rotate_left
  · have HF : Hid (Y = false) := HY.out.trans (sameV_len hl)
    have hlB : (((L1.length : Int)) != (L2.length : Int)) = true := by simp; omega
    clear heq n1 n2
    go_enter Try.func91, Try.ntmps91
    go_upto_region 1 with fail
    rw [← hW0]
    clear hW0
    go_wp2_with fail
    go_ret
    exact ⟨by rw [HF.out]; rfl, A0.out.2.2.2.2⟩
  have hlB : (((L1.length : Int)) != (L2.length : Int)) = false := by simp; omega
  have hlB' : (((L1.length : Int)) == (L2.length : Int)) = true := by simp; omega
  obtain ⟨Q, hQ⟩ : ∃ Q, Q = allEq g1 g2 := ⟨_, rfl⟩
  have HQ := hid hQ
  rw [← hQ] at heq
  clear hQ
  cases Q with
  | false =>
    have HF : Hid (Y = false) := HY.out.trans (sameV_eq HQ.out.symm)
    go_enter Try.func91, Try.ntmps91
    go_upto_region 1 with fail
    rw [← hW0]
    clear hW0
    go_wp2_with fail
    go_ret
    exact ⟨by rw [HF.out]; rfl, A0.out.2.2.2.2⟩
  | true =>
    obtain ⟨R, hR⟩ : ∃ R, R = W0.heap.size := ⟨_, rfl⟩
    obtain ⟨w1, q1, ⟨cnt, q2⟩, q3, q4⟩ := A0.out.2.2.1.range
    have A1 : Hid (∃ left cnt, SmAt w w1 B1 B2 R L1 L2 g1 g2 left cnt) := by
      obtain ⟨a1, a2, a3, a4, a5⟩ := A0.out
      have kp : ∀ {b : Nat}, b < W0.heap.size → w1.heap[b]? = W0.heap[b]? := fun hb => q3.block _ hb (by simp)
      exact ⟨_, cnt, a1.keep (kp a1.lt), a2.keep (kp a2.lt), by rw [hR]; exact q2, a4.keep (kp a4.lt), a5.grown q3 a5.size (fun b hb => by cases hb), ⟨by rw [hR]; exact a2.lt, hB2⟩, fun e d he hf => by
        have : e ∈ L1.map Prod.fst := List.mem_map.2 ⟨(e, d), he, rfl⟩
        rw [decide_eq_true this] at hf; cases hf⟩
    have HL := hid hl
    rw [← hR] at q1
    clear q2 q3 q4 hl hR
    go_enter Try.func91, Try.ntmps91
    go_upto_region 1 with fail
    rw [← hW0]
    clear hW0
    go_wp2_with fail
    clear c1 c2 l1 l2 n1 n2 heq hlB hlB' A0 q1
    go_loopw [5] (fun _ wr => ∃ left cnt, Hid (SmAt w wr B1 B2 R L1 L2 g1 g2 left cnt)) (fun _ wr => wr.rangeLeft B1 R)
    case atStart => exact A1.out
    case round =>
      clear A1
      obtain ⟨left, cnt, hA⟩ := hrel
      rcases hA.out.rg.next 0 with ⟨hn, q1⟩ | ⟨e, d, w2, cnt2, hed, q1, hrg, hlt, hgr, hsz, hen⟩
      · have HF : Hid (Y = true) := by
          refine HY.out.trans (sameV_all HL.out HQ.out.symm fun x hx => ?_)
          obtain ⟨xe, xd⟩ := x
          exact hA.out.done xe xd hx (hn xe (List.mem_map.2 ⟨(xe, xd), hx, rfl⟩))
        have HB := hid hA.out.bel
        clear hA hn
        go_wp2_with fail
        go_ret
        exact ⟨by rw [HF.out]; rfl, HB.out⟩
      · have hm := hA.out.rg.measure
        have lo := hA.out.lo
        have kp : ∀ {b : Nat}, b ≠ R → b < wr.heap.size → w2.heap[b]? = wr.heap[b]? := fun hb hs => hgr.block _ hs (fun e => hb (by injection e))
        have hdone := hid hA.out.done
        have A2 : Hid (inL L2 (e, d) = true → SmAt w w2 B1 B2 R L1 L2 g1 g2 (fun x => left x && !decide (x = e)) cnt2) := fun hin =>
          ⟨hA.out.v1.keep (kp (by omega) hA.out.v1.lt), hA.out.v2.keep (kp (by omega) hA.out.v2.lt), hrg, hA.out.mp.keep (kp (by omega) hA.out.mp.lt), hA.out.bel.grown hgr hA.out.bel.size (fun b hb => by injection hb with hb; omega), lo, fun x u hx hf => by
            by_cases ex : x = e
            · subst ex
              rw [← U1.out x d u hed hx]; exact hin
            · refine hdone.out x u hx ?_
              simpa [ex] using hf⟩
        have V2 : Hid (ArrAt w2 (w.heap.size + 1) (vA (.map (some B2)) g2) ∧ MpAt w2 B2 L2 ∧ Below w.heap.size w w2) := ⟨hA.out.v2.keep (kp (by omega) hA.out.v2.lt), hA.out.mp.keep (kp (by omega) hA.out.mp.lt), hA.out.bel.grown hgr hA.out.bel.size (fun b hb => by injection hb with hb; omega)⟩
        have se := (P1.out _ hed).1
        have sd := (P1.out _ hed).2
        replace q1 : (Instr.next (.pointer (some ⟨R, 0, none⟩)) false 0).run Try.prog wr = .ok (.tuple #[.bool true, .agg #[.int .i64 e.f, .int .i64 e.t], .agg #[.int .i64 d.f, .int .i64 d.t]]) w2 := q1
        replace hen : (Instr.entry (.pointer (some ⟨R, 0, none⟩))).run Try.prog w2 = .ok (.tuple #[.agg #[.int .i64 e.f, .int .i64 e.t], .agg #[.int .i64 d.f, .int .i64 d.t]]) w2 := hen
        obtain ⟨W3, hW3⟩ : ∃ W3, W3 = (w2.alloc (.cells #[.int .i64 e.f, .int .i64 e.t] 151)).alloc (.cells #[.int .i64 d.f, .int .i64 d.t] 151) := ⟨_, rfl⟩
        obtain ⟨M, hM⟩ : ∃ M, M = w2.heap.size := ⟨_, rfl⟩
        have A3 : Hid (ArrAt W3 M #[.int .i64 e.f, .int .i64 e.t] ∧ ArrAt W3 (M + 1) #[.int .i64 d.f, .int .i64 d.t] ∧ Below w2.heap.size w2 W3) := by
          subst hW3; rw [hM]
          refine ⟨(ArrAt.new w2 _ _).below (bx _ _), ?_, bx2 _ _ _⟩
          have := ArrAt.new (w2.alloc (.cells #[.int .i64 e.f, .int .i64 e.t] 151)) #[.int .i64 d.f, .int .i64 d.t] 151
          rwa [show (w2.alloc (.cells #[.int .i64 e.f, .int .i64 e.t] 151)).heap.size = w2.heap.size + 1 by simp] at this
        obtain ⟨u, hlk, hu⟩ := (V2.out.2.1.below A3.out.2.2).find se
        replace hlk : (Instr.lookup 149 (.map (some B2)) (.agg #[.int .i64 e.f, .int .i64 e.t]) true).run Try.prog W3 = .ok (.tuple #[.agg #[.int .i64 u.f, .int .i64 u.t], .bool (decide (e ∈ L2.map Prod.fst))]) W3 := hlk
        have hLI := hid (look_in (d := d) hu)
        have hYn : Hid (inL L2 (e, d) = false → Y = false) := fun h => HY.out.trans (sameV_not hed h)
        have hms : Hid (∀ W', SmAt w W' B1 B2 R L1 L2 g1 g2 (fun x => left x && !decide (x = e)) cnt2 → W'.rangeLeft B1 R < wr.rangeLeft B1 R) := fun W' h => by rw [h.rg.measure, hm]; exact hlt
        have su : Hid (e ∈ L2.map Prod.fst → Small u) := fun he => by
          obtain ⟨⟨e', x⟩, hx, rfl⟩ := List.mem_map.1 he
          rw [hu x hx]; exact P2.out _ hx
        have m1 := (V2.out.1.below A3.out.2.2).cell (vA_map _ _)
        have e1 := A3.out.1.cell (j := 0) (v := .int .i64 e.f) rfl
        have e2 := A3.out.1.cell (j := 1) (v := .int .i64 e.t) rfl
        clear hA hrg hgr hsz hm hu hlt kp hdone se
        go_upto_region 6 with fail
        rw [← hW3, ← hM]
        clear hW3 hM q1 hen
        obtain ⟨I, hI⟩ : ∃ I, I = decide (e ∈ L2.map Prod.fst) := ⟨_, rfl⟩
        rw [← hI] at hlk hLI
        cases I with
        | false =>
          have HF : Hid (Y = false) := hYn.out (by rw [hLI.out]; rfl)
          have HB : ∀ o1 : Obj, Hid (Below w.heap.size w (W3.alloc o1)) := fun o1 => below_tr V2.out.2.2 (below_tr A3.out.2.2 (bx _ _))
          clear hI A3 V2
          go_wp2_with fail
          go_ret
          exact ⟨by rw [HF.out]; rfl, (HB _).out⟩
        | true =>
          have su := su.out (of_decide_eq_true hI.symm)
          have heq0 := fun W => name_eq su sd W
          have f1 : ∀ o1 : Obj, (W3.alloc o1).cell? ⟨M + 1, 0, none⟩ = some (.int .i64 d.f) := fun o1 => (A3.out.2.1.below (bx _ _)).cell rfl
          have f2 : ∀ o1 : Obj, (W3.alloc o1).cell? ⟨M + 1, 1, none⟩ = some (.int .i64 d.t) := fun o1 => (A3.out.2.1.below (bx _ _)).cell rfl
          obtain ⟨J, hJ⟩ : ∃ J, J = decide (u = d) := ⟨_, rfl⟩
          rw [← hJ] at hLI
          have heq : ∀ W, (Op.equalIn 10000 151 (.agg #[.int .i64 u.f, .int .i64 u.t]) (.agg #[.int .i64 d.f, .int .i64 d.t])).run Try.prog W = .ok J W := fun W => by rw [hJ]; exact heq0 W
          clear hI hJ su sd heq0
          cases J with
          | false =>
            have HF : Hid (Y = false) := hYn.out (by rw [hLI.out]; rfl)
            have HB : ∀ o1 : Obj, Hid (Below w.heap.size w (W3.alloc o1)) := fun o1 => below_tr V2.out.2.2 (below_tr A3.out.2.2 (bx _ _))
            clear A3 V2
            go_wp2_with fail
            go_ret
            exact ⟨by rw [HF.out]; rfl, (HB _).out⟩
          | true =>
            have A4 : ∀ o1 : Obj, Hid (SmAt w (W3.alloc o1) B1 B2 R L1 L2 g1 g2 (fun x => left x && !decide (x = e)) cnt2) := fun o1 => ((A2.out (by rw [hLI.out]; rfl)).below A3.out.2.2).below (bx _ _)
            clear A3 V2 A2
            go_wp2_with fail
            go_roundw
            case rel => exact ⟨_, cnt2, A4 _⟩
            case measure => exact hms.out _ (A4 _).out

def alikeE (X Y : List Rn.Op) : Int := if Rn.check X = 0 then Rn.check Y else Rn.check X
def alikeB (X Y : List Rn.Op) : Bool := if Rn.check X = 0 then (if Rn.check Y = 0 then Se.alike X Y else false) else false
theorem alike_sameV (X Y : List Rn.Op) : sameV (Se.fmap X X.length) (Se.fmap Y Y.length) (Se.lstM X) (Se.lstM Y) = Se.alike X Y := by
  unfold sameV Se.alike
  rw [Se.fmap_len, Se.fmap_len]
  rfl
theorem fmap_small {X : List Rn.Op} (hv : Rn.check X = 0) : ∀ e ∈ Se.fmap X X.length, Small e.1 ∧ Small e.2 := by
  intro e he
  obtain ⟨k, hk⟩ := List.getElem?_of_mem he
  obtain ⟨hk1, _⟩ := List.getElem?_eq_some_iff.1 hk
  obtain ⟨p, v, _, r2, r3, r4⟩ := read_at (X := X) (k := k) (by rw [← Se.fmap_len]; exact hk1)
  rw [hk] at r2
  injection r2 with r2
  subst r2
  exact ⟨small_nm hv r3, small_nmO hv r4⟩
theorem st_view (W : World) (m : Option Nat) (g : Nat → Gr.Ed) (T : TypeId) : (storeV (.pointer (some ⟨W.heap.size, 0, none⟩)) (.agg (vA (.map m) g))).run Try.prog (W.alloc (.cells (vA (.map none) z0) T)) = .ok () (W.alloc (.cells (vA (.map m) g) T)) := by
  have e := World.setRow_alloc_new W (vA (.map none) z0) (vA (.map m) g) T
  rw [← e]
  exact run_storeV (ArrAt.new W _ T)

set_option maxHeartbeats 4000000 in
theorem alike_any (w : World) (a1 a2 : Option Addr) (c1 c2 : Nat) (X Y : List Rn.Op) (h1 : OpAt w a1 X) (h2 : OpAt w a2 Y) (hl1 : X.length ≤ 9223372036854775807) (hl2 : Y.length ≤ 9223372036854775807) (hcap1 : X.length ≤ c1) (hcap2 : Y.length ≤ c2) :
    Calls Try.prog 42 #[.slice a1 X.length c1, .slice a2 Y.length c2] w fun e w' => e = .returned (.tuple #[.bool (alikeB X Y), .int .i64 (alikeE X Y)]) ∧ Below w.heap.size w w' := by
  have H1 := hid h1
  have H2 := hid h2
  have hz : ∀ w, (zeroValue 154).run Try.prog w = .ok (.agg (vA (.map none) z0)) w := (zero_of_info view_info).1
  by_cases hv1 : Rn.check X = 0
  rotate_left
  · have e1 : alikeB X Y = false := by unfold alikeB; rw [if_neg hv1]
    have e2 : alikeE X Y = Rn.check X := by unfold alikeE; rw [if_neg hv1]
    rw [e1, e2]
    have K1 := hid (view_bad w a1 c1 X h1 hl1 hcap1 hv1)
    generalize Rn.check X = v at *
    have hv0 : (v != 0) = true := by simpa using hv1
    clear hv1 e1 e2 h1 h2
    go_enter Try.func42, Try.ntmps42
    go_wp2_with fail
    refine (K1.out).mono ?_
    rintro r w1 ⟨rfl, hb1⟩
    have st := fun T => st_view w1 none z0 T
    have HB := fun o1 : Obj => hid (below_tr hb1 (bx w1 o1))
    clear hb1 K1
    go_wp2_with fail
    go_ret2
    exact ⟨rfl, (HB _).out⟩
  have K1 := hid (view_ok w a1 c1 X h1 hcap1 hv1)
  by_cases hv2 : Rn.check Y = 0
  rotate_left
  · have e1 : alikeB X Y = false := by unfold alikeB; rw [if_pos hv1, if_neg hv2]
    have e2 : alikeE X Y = Rn.check Y := by unfold alikeE; rw [if_pos hv1]
    rw [e1, e2]
    have K2 := hid fun W h => view_bad W a2 c2 Y h hl2 hcap2 hv2
    generalize Rn.check Y = v at *
    have hv0 : (v != 0) = true := by simpa using hv2
    clear hv1 hv2 e1 e2 h1 h2
    go_enter Try.func42, Try.ntmps42
    go_wp2_with fail
    refine (K1.out).mono ?_
    rintro r w1 ⟨B, rfl, -, hb1⟩
    have st := fun T => st_view w1 (some B) (Se.lstM X) T
    have HB := fun o1 : Obj => hid (below_tr hb1 (bx w1 o1))
    clear hb1 K1
    go_wp2_with fail
    refine (K2.out _ (H2.out.below (HB _).out)).mono ?_
    rintro r w2 ⟨rfl, hb2⟩
    have st2 := fun T => st_view w2 none z0 T
    have HB2 := fun o1 : Obj => hid (below_tr (HB _).out (below_tr hb2 (bx w2 o1)))
    clear hb2 K2 st HB
    go_wp2_with fail
    go_ret2
    exact ⟨rfl, (HB2 _).out⟩
  have e1 : alikeB X Y = Se.alike X Y := by unfold alikeB; rw [if_pos hv1, if_pos hv2]
  have e2 : alikeE X Y = 0 := by unfold alikeE; rw [if_pos hv1, hv2]
  rw [e1, e2]
  have K2 := hid fun W h => view_ok W a2 c2 Y h hcap2 hv2
  have KS := hid fun W B1 B2 h1 h2 => same_any W B1 B2 (Se.fmap X X.length) (Se.fmap Y Y.length) (Se.lstM X) (Se.lstM Y) h1 h2 (fun i _ => small_lst hv1 i) (fun i _ => small_lst hv2 i) (fmap_small hv1) (fun e he => (fmap_small hv2 e he).2)
  rw [alike_sameV] at KS
  generalize Se.alike X Y = Z at *
  clear hv1 hv2 e1 e2 h1 h2
  go_enter Try.func42, Try.ntmps42
  go_wp2_with fail
  refine (K1.out).mono ?_
  rintro r w1 ⟨B, rfl, hm1, hb1⟩
  have st := fun T => st_view w1 (some B) (Se.lstM X) T
  obtain ⟨M, hM⟩ : ∃ M, M = w1.heap.size := ⟨_, rfl⟩
  have A1 : ∀ T, Hid (ArrAt (w1.alloc (.cells (vA (.map (some B)) (Se.lstM X)) T)) M (vA (.map (some B)) (Se.lstM X)) ∧ MpAt (w1.alloc (.cells (vA (.map (some B)) (Se.lstM X)) T)) B (Se.fmap X X.length) ∧ Below w.heap.size w (w1.alloc (.cells (vA (.map (some B)) (Se.lstM X)) T))) := fun T => by
    rw [hM]; exact ⟨ArrAt.new w1 _ T, hm1.below (bx _ _), below_tr hb1 (bx _ _)⟩
  clear hb1 K1 hm1
  go_wp2_with fail
  rw [← hM]
  refine (K2.out _ (H2.out.below (A1 _).out.2.2)).mono ?_
  rintro r w2 ⟨B', rfl, hm2, hb2⟩
  have st2 := fun T => st_view w2 (some B') (Se.lstM Y) T
  obtain ⟨N, hN⟩ : ∃ N, N = w2.heap.size := ⟨_, rfl⟩
  have A2 : ∀ T, Hid (ArrAt (w2.alloc (.cells (vA (.map (some B')) (Se.lstM Y)) T)) M (vA (.map (some B)) (Se.lstM X)) ∧ ArrAt (w2.alloc (.cells (vA (.map (some B')) (Se.lstM Y)) T)) N (vA (.map (some B')) (Se.lstM Y)) ∧ MpAt (w2.alloc (.cells (vA (.map (some B')) (Se.lstM Y)) T)) B (Se.fmap X X.length) ∧ MpAt (w2.alloc (.cells (vA (.map (some B')) (Se.lstM Y)) T)) B' (Se.fmap Y Y.length) ∧ Below w.heap.size w (w2.alloc (.cells (vA (.map (some B')) (Se.lstM Y)) T))) := fun T => by
    have b := below_tr hb2 (bx w2 (.cells (vA (.map (some B')) (Se.lstM Y)) T))
    rw [hN]
    exact ⟨(A1 _).out.1.below b, ArrAt.new w2 _ T, (A1 _).out.2.1.below b, hm2.below (bx _ _), below_tr (A1 _).out.2.2 b⟩
  have l1 : ∀ T, (loadV (.pointer (some ⟨M, 0, none⟩))).run Try.prog (w2.alloc (.cells (vA (.map (some B')) (Se.lstM Y)) T)) = .ok (.agg (vA (.map (some B)) (Se.lstM X))) (w2.alloc (.cells (vA (.map (some B')) (Se.lstM Y)) T)) := fun T => run_loadV (A2 T).out.1
  have l2 : ∀ T, (loadV (.pointer (some ⟨w2.heap.size, 0, none⟩))).run Try.prog (w2.alloc (.cells (vA (.map (some B')) (Se.lstM Y)) T)) = .ok (.agg (vA (.map (some B')) (Se.lstM Y))) (w2.alloc (.cells (vA (.map (some B')) (Se.lstM Y)) T)) := fun T => run_loadV (ArrAt.new w2 _ T)
  clear hb2 K2 hm2 A1 st hM hN
  go_wp2_with fail
  refine (KS.out _ B B' (A2 _).out.2.2.1 (A2 _).out.2.2.2.1).mono ?_
  rintro r w3 ⟨rfl, hb3⟩
  have HB := hid (below_tr (A2 _).out.2.2.2.2 hb3)
  clear hb3 A2 l1 l2 st2 KS
  go_wp2_with fail
  go_ret2
  exact ⟨rfl, HB.out⟩
end Go.Proofs.Ytlalpahfoafhoab.PSee
