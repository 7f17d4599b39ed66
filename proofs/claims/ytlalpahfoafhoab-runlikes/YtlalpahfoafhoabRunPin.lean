/- run.placesIn, walked: whether each transaction has the same operations in both, and at which place of the other each is; nothing that was there has turned. Conditions: the operations lie where their slices say, each transaction's number is one of twelve, there are at most 200. -/
import Derived.Test.YtlalpahfoafhoabRunPls
import Derived.Test.YtlalpahfoafhoabRunHas
import Derived.BigQuiet
namespace Go.Proofs.Ytlalpahfoafhoab.PRun
open Go Go.RowKit PPool PGraph
set_option maxRecDepth 100000
attribute [local go_sem ↓] loadS_pre storeS_pre

theorem ArrAt.apart' {W : World} {b g : Nat} {A : Array Value} (h : ArrAt W b A) (hne : b ≠ g) (i : Nat) (v : Value) : ArrAt (W.setCell ⟨g, i, none⟩ v) b A :=
  h.keep (Below.heap_setCell _ _ _ _ hne)
/-- How all stands: what is left of each row, the places so far. -/
structure PiAt (w1 W : World) (n : Nat) (V : Nat → Value) (L : Nat → List Nat) (F : Nat → Nat) : Prop where
  arr : ArrAt W w1.heap.size (sA V)
  rows : ∀ t, t < 12 → ∃ a c, V t = .slice a (L t).length c ∧ NatsAt w1 a (L t) ∧ (L t).length ≤ c
  out : OwnNats W (w1.heap.size + 1) (.slice (some ⟨w1.heap.size + 1, 0, none⟩) n n) (Gr.row n F)
  bel : Below w1.heap.size w1 W
theorem PiAt.below {w1 W W' : World} {n : Nat} {V : Nat → Value} {L : Nat → List Nat} {F : Nat → Nat} (h : PiAt w1 W n V L F) (hb : Below W.heap.size W W') : PiAt w1 W' n V L F := ⟨h.arr.below hb, h.rows, h.out.below hb, below_tr h.bel hb⟩
/-- One more place is found. -/
theorem PiAt.put1 {w1 W : World} {n : Nat} {V : Nat → Value} {L : Nat → List Nat} {F : Nat → Nat} (h : PiAt w1 W n V L F) (k q : Nat) :
    PiAt w1 (W.setCell ⟨w1.heap.size + 1, k, none⟩ (.int .i64 (q : Int))) n V L (fun j => if j = k then q else F j) := by
  refine ⟨h.arr.apart' (by omega) _ _, h.rows, ?_, h.bel.setCell (p := ⟨w1.heap.size + 1, k, none⟩) (Nat.le_succ _) _⟩
  have O := h.out.set k q
  rwa [Gr.row_set] at O
theorem PiAt.put2 {w1 W : World} {n : Nat} {V : Nat → Value} {L : Nat → List Nat} {F : Nat → Nat} (h : PiAt w1 W n V L F) {t : Nat} {a : Option Addr} {c : Nat} {M : List Nat} (ha : NatsAt w1 a M) (hc : M.length ≤ c) :
    PiAt w1 (W.setCell ⟨w1.heap.size, t, none⟩ (.slice a M.length c)) n (fun s => if s = t then .slice a M.length c else V s) (fun s => if s = t then M else L s) F := by
  refine ⟨?_, fun s hs => ?_, ?_, h.bel.setCell (p := ⟨w1.heap.size, t, none⟩) (Nat.le_refl _) _⟩
  · have := h.arr.put t (.slice a M.length c)
    rwa [sA_set] at this
  · by_cases e : s = t
    · simp only [if_pos e]; exact ⟨a, c, rfl, ha, hc⟩
    · simp only [if_neg e]; exact h.rows s hs
  · exact h.out.keep fun b hb => Below.heap_setCell _ _ _ _ (by
      have e' : w1.heap.size + 1 = b := by simpa [Value.ownBlock] using hb
      show b ≠ w1.heap.size
      omega)

theorem same_len {X Y : List Rn.Op} (h : ¬ X.length = Y.length) : Rn.same X Y = false := by unfold Rn.same; rw [decide_eq_false h]; rfl
theorem same_not {X Y : List Rn.Op} {k : Nat} (hk : k < X.length) (h : Rn.hitB X Y k = false) : Rn.same X Y = false := by
  apply Bool.eq_false_iff.2
  intro hs
  unfold Rn.same at hs
  rw [Bool.and_eq_true] at hs
  have := Rn.sameTo_le hs.2 hk
  rw [h] at this; cases this
theorem same_all {X Y : List Rn.Op} (hl : X.length = Y.length) (h : Rn.sameTo X Y X.length = true) : Rn.same X Y = true := by unfold Rn.same; rw [decide_eq_true hl, h]; rfl

set_option maxHeartbeats 4000000 in
theorem placesIn_any (w : World) (a1 a2 : Option Addr) (c1 c2 : Nat) (X Y : List Rn.Op) (h1 : OpAt w a1 X) (h2 : OpAt w a2 Y) (hl1 : X.length ≤ 200) (hl2 : Y.length ≤ 200) (hX : ∀ o ∈ X, 0 ≤ o.x ∧ o.x < 12) (hY : ∀ o ∈ Y, 0 ≤ o.x ∧ o.x < 12) :
    Calls Try.prog 88 #[.slice a1 X.length c1, .slice a2 Y.length c2] w fun e w' => ∃ v, e = .returned (.tuple #[v, .bool (Rn.same X Y)]) ∧ (Rn.same X Y = true → OwnNats w' w.heap.size v (Gr.row X.length (Rn.img X Y))) ∧ Below w.heap.size w w' := by
  obtain ⟨S, hS⟩ : ∃ S, S = Rn.same X Y := ⟨_, rfl⟩
  rw [← hS]
  by_cases hl : X.length = Y.length
  rotate_left
  · have HS : Hid (S = false) := hS.trans (same_len hl)
    have hb : ((X.length : Int) != (Y.length : Int)) = true := by simp; omega
    have hb2 : (X.length != Y.length) = true := by simp; omega
    clear hS
    go_enter Try.func88, Try.ntmps88
    go_wp2_with fail
    go_ret2
    exact ⟨_, by rw [HS.out]; rfl, (fun h => by rw [HS.out] at h; cases h), Below.refl _ _⟩
  · have hb : ((X.length : Int) != (Y.length : Int)) = false := by simp; omega
    have hb2 : (X.length != Y.length) = false := by simp; omega
    have H1 := hid h1
    have H2 := hid h2
    have HX := hid hX
    have HY := hid hY
    have HL := hid hl
    have HS := hid hS
    have KP := hid (places_any w a2 c2 Y h2 hl2 hY)
    have hz := (zero_of_info rows_info).1
    have hmk := fun W => run_make_zeros X.length (by omega) W
    clear h1 h2 hX hY hl hS
    go_enter Try.func88, Try.ntmps88
    go_wp2_with fail
    refine (KP.out).mono ?_
    rintro r w1 ⟨V0, rfl, ho1, hb1⟩
    have hV1 : ∀ t, t < 12 → (V0 t).oneCell' = true := fun t ht => by
      obtain ⟨a, c, e, _⟩ := (ho1 t ht).at_
      rw [e]; rfl
    have hst : ∀ T : TypeId, (storeS (.pointer (some ⟨w1.heap.size, 0, none⟩)) (.agg (sA V0))).run Try.prog (w1.alloc (.cells (sA fun _ => nilV) T)) = .ok () (w1.alloc (.cells (sA V0) T)) := fun T => by
      have e := World.setRow_alloc_new w1 (sA fun _ => nilV) (sA V0) T
      rw [← e]
      exact run_storeS (ArrAt.new w1 _ T) hV1
    have A0 : ∀ T, Hid (PiAt w1 ((w1.alloc (.cells (sA V0) T)).alloc (.cells (madeCells #[.int .i64 0] (X.length * 1)) 3)) X.length V0 (fun t => (Rn.plc Y t).drop (Rn.rank X 0 t)) (fun j => if j < 0 then Rn.img X Y j else 0)) := fun T => by
      refine ⟨(ArrAt.new w1 _ _).below (bx _ _), fun t ht => ?_, ?_, bx2 _ _ _⟩
      · obtain ⟨a, c, e, hn, _, hc, _⟩ := (ho1 t ht).at_
        have e0 : Rn.rank X 0 t = 0 := rfl
        simp only [e0, List.drop_zero]
        exact ⟨a, c, e, hn, hc⟩
      · have := made_zeros (w1.alloc (.cells (sA V0) T)) X.length (by unfold maxLen; omega)
        rw [show (w1.alloc (.cells (sA V0) T)).heap.size = w1.heap.size + 1 by simp] at this
        have e : (Gr.row X.length fun j => if j < 0 then Rn.img X Y j else 0) = List.replicate X.length 0 := by
          unfold Gr.row
          apply List.ext_getElem?
          intro j
          rw [List.getElem?_map, List.getElem?_replicate]
          by_cases hj : j < X.length
          · rw [List.getElem?_range hj, if_pos hj]; simp
          · rw [List.getElem?_eq_none (by simp; omega), if_neg hj]; rfl
        rw [e]; exact this
    have B1 := hid hb1
    clear ho1 hV1 hb1 KP
    have B1 : Hid (Below w.heap.size w w1) := B1.out
    go_wp2_with fail
    go_loopw [8, 9, 10, 23] (fun _ _ _ i wr => ∃ (k : Nat) (V : Nat → Value), k ≤ X.length ∧ i = .int .i64 (k : Int) ∧ Hid (Rn.sameTo X Y k = true) ∧ Hid (PiAt w1 wr X.length V (fun t => (Rn.plc Y t).drop (Rn.rank X k t)) (fun j => if j < k then Rn.img X Y j else 0))) (fun _ _ _ i _ => X.length - (intOf i).toNat)
    case atStart => exact ⟨0, V0, Nat.zero_le _, rfl, rfl, by have := A0 182; rwa [Nat.mul_one] at this⟩
    case round =>
      clear A0 hst hmk
      obtain ⟨k, V, hk, rfl, hC, hA⟩ := hrel
      by_cases hlt : k < X.length
      · obtain ⟨x, hx⟩ : ∃ x, X[k]? = some x := ⟨_, List.getElem?_eq_getElem hlt⟩
        obtain ⟨b, o, rfl, d1, d2, d3⟩ := (H1.out.below (below_tr B1.out hA.out.bel)) k x hx
        have k0 : (0 : Int) ≤ (k : Int) := by omega
        have k1 : (k : Int) < (X.length : Int) := by omega
        have hx0 := HX.out x (List.mem_of_getElem? hx)
        obtain ⟨t, ht⟩ : ∃ t : Nat, x.x = (t : Int) := ⟨x.x.toNat, by omega⟩
        have tN : x.x.toNat = t := by omega
        have t0 : (0 : Int) ≤ (t : Int) := by omega
        have t12 : t < 12 := by omega
        have t1 : (t : Int) < 12 := by omega
        have hiff := @Rn.hitB_iff X Y k x hx
        rw [tN] at hiff
        obtain ⟨a, c, hVt, hn, hc⟩ := hA.out.rows t t12
        have vt := hA.out.arr.cell (sA_at V t12)
        rw [hVt] at vt
        cases hL : (Rn.plc Y t).drop (Rn.rank X k t) with
        | nil =>
          have hno : (Rn.plc Y t)[Rn.rank X k t]? = none := by
            rw [List.getElem?_eq_none_iff]; exact List.drop_eq_nil_iff.1 hL
          have HF : Hid (S = false) := by
            show _ = _
            rw [HS.out]
            refine same_not hlt (Bool.eq_false_iff.2 fun hh => ?_)
            obtain ⟨q, e, _⟩ := hiff.1 hh
            rw [hno] at e; cases e
          have B2 : Hid (Below w.heap.size w wr) := below_tr B1.out hA.out.bel
          rw [hL] at vt
          have vta : ∀ o, (wr.alloc o).cell? ⟨w1.heap.size, t, none⟩ = some (.slice a 0 c) := fun o => keep1 (bx wr o) vt
          have hB := fun o => hid (below_tr B2.out (bx wr o).drew)
          clear hno hiff hA hC hL vt hx hVt hn hc tN
          obtain ⟨ox, ok, oi⟩ := x
          simp only at d1 d2 d3 ht
          subst ht
          go_wp2_with fail
          go_region
          all_goals
            go_wp2_with fail
            go_ret2
            exact ⟨_, by rw [HF.out]; rfl, (fun h => by rw [HF.out] at h; cases h), (hB _).out⟩
        | cons q M =>
          have hq : (Rn.plc Y t)[Rn.rank X k t]? = some q := by
            have := congrArg (fun l : List Nat => l[0]?) hL
            simpa using this
          obtain ⟨y, hy, -⟩ := Rn.plc_at hq
          have hyl := (List.getElem?_eq_some_iff.1 hy).1
          rw [hL] at hVt hn hc vt
          obtain ⟨b1, o1, rfl, cq⟩ := hn 0 q rfl
          have B2 : Hid (Below w.heap.size w wr) := below_tr B1.out hA.out.bel
          obtain ⟨b2, o2, rfl, e1, e2, e3⟩ := (H2.out.below B2.out) q y hy
          rw [Nat.add_zero] at cq
          have cqr := keep1 hA.out.bel cq
          have q0 : (0 : Int) ≤ (q : Int) := by omega
          have q1 : (q : Int) < (Y.length : Int) := by omega
          have vta : ∀ o, (wr.alloc o).cell? ⟨w1.heap.size, t, none⟩ = some (.slice (some ⟨b1, o1, none⟩) (M.length + 1) c) := fun o => keep1 (bx wr o) vt
          have cqa : ∀ o, (wr.alloc o).cell? ⟨b1, o1, none⟩ = some (.int .i64 (q : Int)) := fun o => keep1 (bx wr o) cqr
          have e1a : ∀ o, (wr.alloc o).cell? ⟨b2, o2 + q * 3, none⟩ = some (.int .i64 y.x) := fun o => keep1 (bx wr o) e1
          have e2a : ∀ o, (wr.alloc o).cell? ⟨b2, o2 + q * 3 + 1, none⟩ = some (.int .i64 y.k) := fun o => keep1 (bx wr o) e2
          have e3a : ∀ o, (wr.alloc o).cell? ⟨b2, o2 + q * 3 + 2, none⟩ = some (.int .i64 y.i) := fun o => keep1 (bx wr o) e3
          have m0 : (((M.length : Int) + 1) == 0) = false := by simp; omega
          have hB := fun o => hid (below_tr B2.out (bx wr o).drew)
          have hcmp := op_eq y.x x.x y.k x.k y.i x.i
          rw [op_eqB y x] at hcmp
          clear cq cqr e1 e2 e3 vt
          by_cases hxy : y = x
          · subst hxy
            have hcmp : ∀ w : World, (Op.equalIn 10000 129 (.agg #[.int .i64 y.x, .int .i64 y.k, .int .i64 y.i]) (.agg #[.int .i64 y.x, .int .i64 y.k, .int .i64 y.i])).run Try.prog w = .ok true w := by simpa using hcmp
            have hC2 : Hid (Rn.sameTo X Y (k + 1) = true) := by
              show _ = _
              rw [Rn.sameTo_next, hC.out, hiff.2 ⟨q, hq, hy⟩]; rfl
            have himg : Rn.img X Y k = q := Rn.img_at hx (by rw [tN]; exact hq)
            have hLs : Hid ((fun s => (Rn.plc Y s).drop (Rn.rank X (k + 1) s)) = fun s => if s = t then M else (Rn.plc Y s).drop (Rn.rank X k s)) := by
              show _ = _
              funext s
              rw [Rn.rank_next hx]
              by_cases e : s = t
              · subst e
                rw [if_pos ht, if_pos rfl, ← List.drop_drop, hL]
                rfl
              · rw [if_neg (by omega), if_neg e, Nat.add_zero]
            have hFs : Hid (Gr.row X.length (fun j => if j < k + 1 then Rn.img X Y j else 0) = Gr.row X.length (fun j => if j = k then q else if j < k then Rn.img X Y j else 0)) := Gr.row_congr fun j _ => by
              by_cases e : j = k
              · subst e
                rw [if_pos (Nat.lt_succ_self _), if_pos rfl, himg]
              · rw [if_neg e]
                by_cases e2 : j < k
                · rw [if_pos e2, if_pos (by omega)]
                · rw [if_neg e2, if_neg (by omega)]
            have P1 : Hid (∀ o, PiAt w1 ((wr.setCell ⟨w1.heap.size + 1, k, none⟩ (.int .i64 (q : Int))).alloc o).drew X.length V (fun s => (Rn.plc Y s).drop (Rn.rank X k s)) (fun j => if j = k then q else if j < k then Rn.img X Y j else 0)) := fun o => ((hA.out.put1 k q).below (bx _ o)).below (Below.refl _ _).drew
            have g1 : Hid (∀ (a' : Option Addr) (c' : Nat), NatsAt w1 a' M → M.length ≤ c' → ∀ o, PiAt w1 ((((wr.setCell ⟨w1.heap.size + 1, k, none⟩ (.int .i64 (q : Int))).alloc o).setCell ⟨w1.heap.size, t, none⟩ (.slice a' M.length c')).drew.drew) X.length (fun s => if s = t then .slice a' M.length c' else V s) (fun s => (Rn.plc Y s).drop (Rn.rank X (k + 1) s)) (fun j => if j < k + 1 then Rn.img X Y j else 0)) := fun a' c' h1 h2 o => by
              have P0 := ((hA.out.put1 k q).below (bx _ o)).put2 (t := t) h1 h2
              have P := (P0.below (Below.refl _ _).drew).below (Below.refl _ _).drew
              rw [hLs.out]
              exact ⟨P.arr, P.rows, by rw [hFs.out]; exact P.out, P.bel⟩
            have g2 : Hid (NatsAt w1 (some ⟨b1, o1 + 1, none⟩) M) := fun j u hu => by
              obtain ⟨b', o', e, hc'⟩ := hn (j + 1) u (by simpa using hu)
              injection e with e
              injection e with e1 e2
              subst e1; subst e2
              exact ⟨b1, o1 + 1, rfl, by rw [show o1 + 1 + j = o1 + (j + 1) by omega]; exact hc'⟩
            have hkr : (Gr.row X.length fun j => if j < k then Rn.img X Y j else 0)[k]? = some 0 := by rw [Gr.row_at _ hlt, if_neg (by omega)]
            have s1 : ∀ o, (wr.alloc o).cell? ⟨w1.heap.size + 1, k, none⟩ = some (.int .i64 0) := fun o => (hA.out.out.below (bx wr o)).cell hkr
            have s2 : ∀ o, (wr.alloc o).frozen? ⟨w1.heap.size + 1, k, none⟩ = false := fun o => (hA.out.out.below (bx wr o)).fz k
            have s3 : ∀ o, (((wr.setCell ⟨w1.heap.size + 1, k, none⟩ (.int .i64 (q : Int))).alloc o).drew).cell? ⟨w1.heap.size, t, none⟩ = some (.slice (some ⟨b1, o1, none⟩) (M.length + 1) c) := fun o => by
              rw [(P1.out o).arr.cell (sA_at V t12), hVt]; rfl
            have s4 : ∀ o, (((wr.setCell ⟨w1.heap.size + 1, k, none⟩ (.int .i64 (q : Int))).alloc o).drew).frozen? ⟨w1.heap.size, t, none⟩ = false := fun o => (P1.out o).arr.fz t
            have hM : w1.heap.size + 1 < wr.heap.size := (hA.out.out.ge).2
            obtain ⟨ox, ok, oi⟩ := y
            simp only at d1 d2 d3 ht hcmp e1a e2a e3a
            subst ht
            have s5 : (((wr.setCell ⟨w1.heap.size + 1, k, none⟩ (.int .i64 (q : Int))).alloc (.cells #[.int .i64 (t : Int), .int .i64 ok, .int .i64 oi] 129)).drew).cell? ⟨wr.heap.size, 0, none⟩ = some (.int .i64 (t : Int)) := by
              have := (box3 (w := wr.setCell ⟨w1.heap.size + 1, k, none⟩ (.int .i64 (q : Int))) (x := .int .i64 (t : Int)) (y := .int .i64 ok) (z := .int .i64 oi) (T := 129) (Below.refl _ _)).1
              rw [show (wr.setCell ⟨w1.heap.size + 1, k, none⟩ (.int .i64 (q : Int))).heap.size = wr.heap.size by simp] at this
              exact this
            have cle : (M.length + 1 : Nat) ≤ c := by simpa using hc
            have c0 : ((1 : Int) ≤ (c : Int)) := by omega
            clear hiff hA hC hL hx hVt hn hc tN hq hy hyl himg hLs hFs hkr P1
            go_wp2_with fail
            go_region
            all_goals
              go_wp2_with fail
              go_region
            all_goals
              go_wp2_with fail
              refine ⟨⟨k + 1, _, by omega, by go_num, hC2, g1.out _ _ ?_ (by omega) _⟩, by simp [intOf]; omega⟩
              by_cases c1' : c = 1
              · have hM0 : M = [] := List.eq_nil_of_length_eq_zero (by omega)
                rw [hM0]
                exact RowAt.nil _ _
              · rw [if_neg c1']; exact g2.out
          · have hd : decide (y = x) = false := decide_eq_false hxy
            rw [hd] at hcmp
            have HF : Hid (S = false) := by
              show _ = _
              rw [HS.out]
              refine same_not hlt (Bool.eq_false_iff.2 fun hh => ?_)
              obtain ⟨q', e, e'⟩ := hiff.1 hh
              rw [hq] at e
              injection e with e
              rw [← e, hy] at e'
              injection e' with e'
              exact hxy e'
            clear hiff hA hC hL hx hVt hn hc tN hq hxy hd hy hyl
            obtain ⟨ox, ok, oi⟩ := x
            simp only at d1 d2 d3 ht hcmp
            subst ht
            go_wp2_with fail
            go_region
            all_goals
              go_wp2_with fail
              go_ret2
              exact ⟨_, by rw [HF.out]; rfl, (fun h => by rw [HF.out] at h; cases h), (hB _).out⟩
      · obtain rfl : k = X.length := by omega
        have HF : Hid (S = true) := by show _ = _; rw [HS.out]; exact same_all HL.out hC.out
        have O : Hid (OwnNats wr w.heap.size (.slice (some ⟨w1.heap.size + 1, 0, none⟩) X.length X.length) (Gr.row X.length (Rn.img X Y))) := by
          have := hA.out.out.lower (base' := w.heap.size) (by have := B1.out.size; omega)
          rwa [Gr.row_congr (G := Rn.img X Y) (fun j hj => if_pos hj)] at this
        have B2 : Hid (Below w.heap.size w wr) := below_tr B1.out hA.out.bel
        have j3 : decide ((X.length : Int) < (X.length : Int)) = false := by simp
        clear hC hA
        go_wp2_with fail
        go_ret2
        exact ⟨_, by rw [HF.out]; rfl, fun _ => O.out, B2.out⟩
end Go.Proofs.Ytlalpahfoafhoab.PRun
