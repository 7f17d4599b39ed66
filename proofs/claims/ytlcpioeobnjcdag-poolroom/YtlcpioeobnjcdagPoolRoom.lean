/- quirkeep.PoolRoom, walked: true whatever is handed in. Conditions: the refs' slice has no less capacity than length. -/
import Derived.Test.YtlcpioeobnjcdagPoolBest
namespace Go.Proofs.Ytlcpioeobnjcdag.PPool
open Go Go.RowKit
set_option maxRecDepth 100000

/-- The four calls. -/
def fnOf : Nat → Nat | 0 => 18 | 1 => 19 | 2 => 15 | _ => 20
def outOf (size : Int) (refs : List Int) : Nat → List Bool × List Int | 0 => out Pl.fifoR () size refs | 1 => out Pl.lruR () size refs | 2 => out Pl.bestR () size refs | _ => out Pl.clockR (List.replicate 50 false, 0) size refs
theorem of_any (k : Nat) (w : World) (size : Int) (a : Option Addr) (c : Nat) (refs : List Int) (h : IntsAt w a refs) (hcap : refs.length ≤ c) :
    Calls Try.prog (fnOf k) #[.int .i64 size, .slice a refs.length c] w fun e w' => Ans w w' e (chk size refs.length) (outOf size refs k) := by
  match k with
  | 0 => exact fifo_any w size a c refs h
  | 1 => exact lru_any w size a c refs h
  | 2 => exact best_any w size a c refs h hcap
  | _ + 3 => exact clock_any w size a c refs h
theorem of_ent (k : Nat) (args : Array Value) (W : World) : (callFunc (fnOf k) args).run Try.prog W = .ok (.enter (fnOf k) args) W := by
  match k with
  | 0 => rfl
  | 1 => rfl
  | 2 => rfl
  | _ + 3 => rfl
/-- What is promised of each. -/
structure Roomy (size : Int) (refs : List Int) (O : List Bool × List Int) : Prop where
  room : (O.2.length : Int) ≤ size
  len : O.1.length = refs.length
  mem : ∀ x ∈ O.2, x ∈ refs
  nodup : O.2.Nodup
  last : ∀ r, refs.getLast? = some r → r ∈ O.2
theorem roomy_of {S : Type} {R : Pl.Rule S} {s0 : S} {I : S × List Int → Prop} {size : Int} {refs : List Int} (h : chk size refs.length = 0) (hk : Pl.Keeps size.toNat (fun s : S × List Int => s.2) (R.step size.toNat) I) (h0 : I (s0, [])) : Roomy size refs (out R s0 size refs) := by
  obtain ⟨h1, h2, h3, h4⟩ := chk_zero h
  rw [out_eq _ _ h]
  refine ⟨?_, run_len _ _ _ _, fun x hx => ?_, hk.nodup _ (hk.inv refs _ h0), fun r hr => hk.last refs _ h0 r hr⟩
  · have := hk.room _ (hk.inv refs _ h0)
    show ((R.run size.toNat (s0, []) refs).2.2.length : Int) ≤ size
    have e : (R.run size.toNat (s0, []) refs).2.2.length ≤ size.toNat := this
    omega
  · rcases hk.mem refs _ h0 x hx with e | e
    · exact e
    · simp at e
theorem roomy_same {S : Type} {R : Pl.Rule S} {s0 : S} {k : Nat} {size : Int} {refs : List Int} {g : List Int → Int → List Int → List Int} (h : chk size refs.length = 0) (hk : Pl.Keeps size.toNat id g (Pl.Ok size.toNat)) (e1 : (R.run size.toNat (s0, []) refs).2.2 = (Pl.go id g [] refs).2) (_ : k = 0) : Roomy size refs (out R s0 size refs) := by
  obtain ⟨h1, h2, h3, h4⟩ := chk_zero h
  rw [out_eq _ _ h]
  refine ⟨?_, run_len _ _ _ _, fun x hx => ?_, ?_, fun r hr => ?_⟩
  · simp only
    rw [e1]
    have := (hk.inv refs [] (Pl.Ok.nil _)).room
    omega
  · simp only at hx
    rw [e1] at hx
    rcases hk.mem refs [] (Pl.Ok.nil _) x hx with e | e
    · exact e
    · simp at e
  · simp only
    rw [e1]
    exact (hk.inv refs [] (Pl.Ok.nil _)).nodup
  · simp only
    rw [e1]
    exact hk.last refs [] (Pl.Ok.nil _) r hr
theorem of_room (k : Nat) {size : Int} {refs : List Int} (h : chk size refs.length = 0) : Roomy size refs (outOf size refs k) := by
  obtain ⟨h1, _⟩ := chk_zero h
  match k with
  | 0 => exact roomy_same h (Pl.fifo_keeps h1) (Pl.fifo_run h1 refs).2 rfl
  | 1 => exact roomy_same h (Pl.lru_keeps h1) (Pl.lru_run h1 refs).2 rfl
  | 2 => exact roomy_same h (Pl.best_keeps h1) (Pl.best_run h1 refs).2 rfl
  | _ + 3 => exact roomy_of h (Pl.clock_keeps h1) ⟨Pl.Ok.nil _, h1⟩
theorem of_bad (k : Nat) {size : Int} {refs : List Int} (h : chk size refs.length ≠ 0) : outOf size refs k = ([], []) := by
  match k with
  | 0 => exact if_neg h
  | 1 => exact if_neg h
  | 2 => exact if_neg h
  | _ + 3 => exact if_neg h
/-- The first i of a slice. -/
theorem slice_head (W : World) (a : Option Addr) (c : Nat) (X : List Int) (i : Nat) (hi : i < X.length) (hc : X.length ≤ c) (h : IntsAt W a X) :
    ∀ W', (Instr.slice 38 (.slice a X.length c) none (some (.int .i64 (i : Int))) none).run Try.prog W' = .ok (.slice a (X.take i).length c) W' := by
  intro W'
  have u : Try.prog.underlying 38 = some (.slice (Try.prog.elem 38)) := by kernel_rfl
  have z : (sizeOf (Try.prog.elem 38)).run Try.prog W' = .ok 1 W' := by kernel_rfl
  obtain ⟨b, o, rfl, _⟩ := h.lt (by omega)
  rw [run_slice_h W' 38 _ _ _ u .i64 (i : Int) (by omega) (by omega), z]
  simp only [Result.andThen]
  unfold sliced
  rw [if_neg (by omega), List.length_take, Nat.min_eq_left (by omega)]
  simp [Addr.add]
theorem nodup_take {X : List Int} (h : X.Nodup) {i : Nat} {x : Int} (hx : X[i]? = some x) : x ∉ X.take i := by
  obtain ⟨g1, g2⟩ := List.getElem?_eq_some_iff.1 hx
  intro hm
  have e : X = X.take i ++ X.drop i := (List.take_append_drop i X).symm
  rw [e] at h
  have hd := (List.nodup_append.1 h).2.2 x hm x (by rw [List.drop_eq_getElem_cons g1, g2]; simp)
  exact hd rfl

set_option maxHeartbeats 1000000 in
theorem room_walk (w : World) (size : Int) (sa : Option Addr) (c : Nat) (refs : List Int) (h : IntsAt w sa refs) (hcap : refs.length ≤ c) :
    Calls Try.prog 8 #[.int .i64 size, .slice sa refs.length c] w fun e w' => e = .returned (.bool true) ∧ Below w.heap.size w w' := by
  obtain ⟨y, hy⟩ : ∃ y, y = chk size refs.length := ⟨_, rfl⟩
  have KF : Hid (∀ k W, Below w.heap.size w W → ∃ f O, (Value.func (.func (fnOf k)) #[] #[] = Value.func (.func f) #[] #[]) ∧ (∀ (args : Array Value) (W : World), (callFunc f args).run Try.prog W = .ok (.enter f args) W) ∧ (Hid (Calls Try.prog f #[.int .i64 size, .slice sa refs.length c] W fun e w' => Ans W w' e y O)) ∧ Hid (y ≠ 0 → O = ([], [])) ∧ Hid (y = 0 → Roomy size refs O)) :=
    fun k W hW => ⟨fnOf k, outOf size refs k, rfl, of_ent k, by rw [hy]; exact of_any k W size sa c refs (h.below hW) hcap, fun e => of_bad k (by rw [← hy]; exact e), fun e => of_room k (by rw [← hy]; exact e)⟩
  have HS : Hid (y = 0 → refs.length ≤ 2000 ∧ size ≤ 50) := fun e => by
    rw [hy] at e
    have := chk_zero e
    omega
  have HR := hid h
  clear hy h
  have KT : Hid (∀ W : World, Calls Try.prog 20 #[.int .i64 2, .slice (some ⟨W.heap.size, 0, none⟩) 3 3] (W.alloc (.cells #[.int .i64 1, .int .i64 2, .int .i64 3] 3)) fun e w' => Ans (W.alloc (.cells #[.int .i64 1, .int .i64 2, .int .i64 3] 3)) w' e 0 (out Pl.clockR (List.replicate 50 false, 0) 2 [1, 2, 3])) := fun W => clock_any _ 2 _ 3 [1, 2, 3] (row_new W 3 [1, 2, 3])
  have ht : out Pl.clockR (List.replicate 50 false, 0) 2 [1, 2, 3] = ([false, false, false], [3, 2]) := by decide
  obtain ⟨Ot, hOt⟩ : ∃ O, O = out Pl.clockR (List.replicate 50 false, 0) 2 [1, 2, 3] := ⟨_, rfl⟩
  rw [← hOt] at KT ht
  have T1 : Hid (Ot.2 = [3, 2]) := by show _ = _; rw [ht]
  clear hOt ht
  go_enter Try.func8, Try.ntmps8
  go_wp2_with fail
  refine (KT.out w).mono ?_
  rintro r w1 hA
  obtain ⟨a1, c1, a2, c2, rfl, _, i2, _, b1⟩ := hA.take
  have B1 := below_to (bx w _) b1.out
  have HE := hid (eqInts_any (w1.alloc (.cells #[.int .i64 3, .int .i64 2] 3)) a2 (some ⟨w1.heap.size, 0, none⟩) c2 2 Ot.2 [3, 2] (i2.out.below (bx _ _)) (row_new w1 3 [3, 2]) (by rw [T1.out]; decide))
  rw [decide_eq_true T1.out] at HE
  clear hA b1 i2 KT
  go_wp2_with fail
  refine (HE.out).mono ?_
  rintro r w3 ⟨rfl, hb3⟩
  have B3 := below_to (below_to B1.out (bx _ _)).out hb3
  clear hb3 HE B1 T1
  go_wp2_with fail
  go_loopw [31] (fun i wr => ∃ k : Nat, k ≤ 4 ∧ i = .int .i64 (k : Int) ∧ Hid (Below w.heap.size w wr) ∧ Hid (∀ j, j < 4 → wr.cell? ⟨w3.heap.size, j, none⟩ = some (.func (.func (fnOf j)) #[] #[]))) (fun i _ => 4 - (intOf i).toNat)
  case atStart =>
    refine ⟨0, Nat.zero_le _, rfl, below_to B3.out (bx _ _), fun j hj => ?_⟩
    rw [cell_of_row _ _ _ _ _ _ (heap_alloc_new w3 _)]
    match j, hj with
    | 0, _ => rfl
    | 1, _ => rfl
    | 2, _ => rfl
    | 3, _ => rfl
  case round =>
    obtain ⟨k, hk, rfl, hB, hC⟩ := hrel
    by_cases hlt : k < 4
    · have d0 := hC.out k hlt
      obtain ⟨f, O, ef, en, KA, hbad, hok⟩ := KF.out k wr hB.out
      rw [ef] at d0
      have k0 : (0 : Int) ≤ (k : Int) := by omega
      have k1 : (k : Int) < 4 := by omega
      clear ef
      go_wp2_with fail
      refine (KA.out).mono ?_
      rintro r w4 hA
      obtain ⟨p1, q1, p2, q2, rfl, i4, j4, s4, b4⟩ := hA.take
      have B4 := below_to hB.out b4.out
      have C4 : Hid (∀ j, j < 4 → w4.cell? ⟨w3.heap.size, j, none⟩ = some (.func (.func (fnOf j)) #[] #[])) := fun j hj => by
        have e := hC.out j hj
        exact (b4.out.cell (p := ⟨w3.heap.size, j, none⟩) (World.block_lt_of_cell? wr _ e)).trans e
      clear hA b4 hB hC KA d0
      by_cases hy : y = 0
      · subst hy
        have HO := hid (hok.out rfl)
        obtain ⟨n2000, s50⟩ := HS.out rfl
        have hroom := HO.out.room
        have hlen := HO.out.len
        have n50 : (O.2.length : Int) ≤ 50 := by omega
        clear hbad hok hlen
        go_wp2_with fail
        go_loopw [53] (fun i wr => ∃ m : Nat, m ≤ O.2.length ∧ i = .int .i64 (m : Int) ∧ Hid (Below w4.heap.size w4 wr)) (fun i _ => O.2.length - (intOf i).toNat)
        case atStart => exact ⟨0, Nat.zero_le _, rfl, Below.refl _ _⟩
        case round =>
          obtain ⟨m, hm, rfl, hb5⟩ := hrel
          by_cases hlm : m < O.2.length
          · obtain ⟨x, hx⟩ : ∃ x, O.2[m]? = some x := ⟨_, List.getElem?_eq_getElem hlm⟩
            have hsl := slice_head w4 p2 q2 O.2 m hlm s4.out j4.out
            obtain ⟨b, o, rfl, d1⟩ := (j4.out.below hb5.out) m x hx
            have x0 : (0 : Int) ≤ (m : Int) := by omega
            have x1 : (m : Int) < (O.2.length : Int) := by omega
            have HC1 := hid (contains_any wr sa c refs x (HR.out.below (below_to B4.out hb5.out).out) (by omega))
            rw [decide_eq_true (HO.out.mem x (List.mem_of_getElem? hx))] at HC1
            have HC2 := hid (fun W (hb : Below w4.heap.size w4 W) => contains_any W (some ⟨b, o, none⟩) q2 (O.2.take m) x ((j4.out.below hb).take m) (by rw [List.length_take]; omega))
            rw [decide_eq_false (nodup_take HO.out.nodup hx)] at HC2
            generalize (O.2.take m).length = tl at *
            clear hx
            go_wp2_with fail
            refine (HC1.out).mono ?_
            rintro r w6 ⟨rfl, hb6⟩
            have b6 := below_to hb5.out hb6
            have HC3 := hid (HC2.out w6 b6.out)
            clear hb6 hb5 HC1 HC2
            go_wp2_with fail
            refine (HC3.out).mono ?_
            rintro r w7 ⟨rfl, hb7⟩
            have b7 := below_to b6.out hb7
            clear hb7 b6 HC3
            go_wp2_with fail
            go_roundw
            case rel => exact ⟨m + 1, by omega, by go_num, b7⟩
            case measure => simp [intOf]; omega
          · obtain rfl : m = O.2.length := by omega
            have x3 : decide ((O.2.length : Int) < (O.2.length : Int)) = false := by simp
            have x4 : decide (size < (O.2.length : Int)) = false := by simp; omega
            have x5 : ((O.1.length : Int) != (refs.length : Int)) = false := by have := HO.out.len; simp; omega
            have x6 : (O.1.length != refs.length) = false := by have := HO.out.len; simp; omega
            have C5 : Hid (∀ j, j < 4 → wr.cell? ⟨w3.heap.size, j, none⟩ = some (.func (.func (fnOf j)) #[] #[])) := fun j hj => by
              have e := C4.out j hj
              exact (hb5.out.cell (p := ⟨w3.heap.size, j, none⟩) (World.block_lt_of_cell? w4 _ e)).trans e
            have B5 := below_to B4.out hb5.out
            by_cases hn : 0 < refs.length
            · obtain ⟨l, hl⟩ : ∃ l, refs[refs.length - 1]? = some l := ⟨_, List.getElem?_eq_getElem (by omega)⟩
              have hlast : refs.getLast? = some l := by rw [List.getLast?_eq_getElem?]; exact hl
              obtain ⟨b, o, rfl, d1⟩ := (HR.out.below B5.out) _ l hl
              have HC1 := hid (contains_any wr p2 q2 O.2 l (j4.out.below hb5.out) (by omega))
              rw [decide_eq_true (HO.out.last l hlast)] at HC1
              have x7 : decide ((0 : Int) < (refs.length : Int)) = true := by simpa using hn
              have x8 : (0 : Int) < (refs.length : Int) := by omega
              have x9 : (refs.length : Int) ≤ 2000 := by omega
              clear hl hlast
              go_wp2_with fail
              refine (HC1.out).mono ?_
              rintro r w8 ⟨rfl, hb8⟩
              have B8 := below_to B5.out hb8
              have C8 : Hid (∀ j, j < 4 → w8.cell? ⟨w3.heap.size, j, none⟩ = some (.func (.func (fnOf j)) #[] #[])) := fun j hj => by
                have e := C5.out j hj
                exact (hb8.cell (p := ⟨w3.heap.size, j, none⟩) (World.block_lt_of_cell? wr _ e)).trans e
              clear hb8 HC1
              go_wp2_with fail
              go_roundw
              case rel => exact ⟨k + 1, by omega, by go_num, B8, C8⟩
              case measure => simp [intOf]; omega
            · have x7 : decide ((0 : Int) < (refs.length : Int)) = false := decide_eq_false (by omega)
              have x8 : ¬ (0 : Int) < (refs.length : Int) := by omega
              go_wp2_with fail
              go_roundw
              case rel => exact ⟨k + 1, by omega, by go_num, B5, C5⟩
              case measure => simp [intOf]; omega
      · have j1 : (y != 0) = true := by simpa using hy
        have hO := hbad.out hy
        have e1 : O.1.length = 0 := by rw [hO]; rfl
        have e2 : O.2.length = 0 := by rw [hO]; rfl
        clear hbad hok hO
        go_wp2_with fail
        go_ret
        exact ⟨rfl, B4.out⟩
    · obtain rfl : k = 4 := by omega
      go_wp2_with fail
      go_ret
      exact ⟨rfl, hB.out⟩

end Go.Proofs.Ytlcpioeobnjcdag.PPool
