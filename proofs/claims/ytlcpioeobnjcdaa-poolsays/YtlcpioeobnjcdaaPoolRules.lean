/- pool.lastAgain and what Fifo, Lru and Best hand to keep, walked; Fifo, Lru, Best. Conditions: lengths that an int holds. -/
import Derived.Test.YtlcpioeobnjcdaaPoolKeep
namespace Go.Proofs.Ytlcpioeobnjcdaa.PPool
open Go Go.RowKit
set_option maxRecDepth 100000

theorem slice_behind (W : World) (g o n c k : Nat) (hk : k ≤ n) : (Instr.slice 55 (.slice (some ⟨g, o, none⟩) n c) (some (.int .i64 (k : Int))) none none).run Try.prog W = .ok (.slice (if c = k then some ⟨g, o, none⟩ else some ⟨g, o + k, none⟩) (n - k) (c - k)) W := by
  have u := Try.underlying55
  have z := Try.sizeOf3
  go_simp

/-- Which place lastAgain has so far. -/
structure LA (P rest : List Int) (k p : Nat) (l : Int) : Prop where
  fst : k = 0 → p = 0 ∧ l = -1
  lt : 0 < k → p < k
  pl : 0 < k → ∀ x, P[p]? = some x → l = (rest.idxOf x : Int)
  max : ∀ j x, j < k → P[j]? = some x → (rest.idxOf x : Int) ≤ l
  first : ∀ j x, j < p → P[j]? = some x → (rest.idxOf x : Int) < l
  lm : ∀ j x, j < k → P[j]? = some x → x ∈ rest
theorem LA.zero (P rest : List Int) : LA P rest 0 0 (-1) := ⟨fun _ => ⟨rfl, rfl⟩, fun h => by omega, fun h => by omega, fun _ _ h => by omega, fun _ _ h => by omega, fun _ _ h => by omega⟩
theorem LA.keep {P rest : List Int} {k p : Nat} {l : Int} (h : LA P rest k p l) {x : Int} (hx : P[k]? = some x) (hm : x ∈ rest) (hl : (rest.idxOf x : Int) ≤ l) : LA P rest (k + 1) p l := by
  have hk : 0 < k := by
    rcases Nat.eq_zero_or_pos k with e | e
    · have := (h.fst e).2; omega
    · exact e
  refine ⟨fun e => by omega, fun _ => by have := h.lt hk; omega, fun _ => h.pl hk, fun j y hj hy => ?_, h.first, fun j y hj hy => ?_⟩
  · by_cases e : j = k
    · subst e; rw [hx] at hy; cases hy; exact hl
    · exact h.max j y (by omega) hy
  · by_cases e : j = k
    · subst e; rw [hx] at hy; cases hy; exact hm
    · exact h.lm j y (by omega) hy
theorem LA.turn {P rest : List Int} {k p : Nat} {l : Int} (h : LA P rest k p l) {x : Int} (hx : P[k]? = some x) (hm : x ∈ rest) (hl : l < (rest.idxOf x : Int)) : LA P rest (k + 1) k (rest.idxOf x : Int) := by
  refine ⟨fun e => by omega, fun _ => by omega, fun _ y hy => by rw [hx] at hy; cases hy; rfl, fun j y hj hy => ?_, fun j y hj hy => ?_, fun j y hj hy => ?_⟩
  · by_cases e : j = k
    · subst e; rw [hx] at hy; cases hy; exact Int.le_refl _
    · have := h.max j y (by omega) hy; omega
  · have := h.max j y hj hy; omega
  · by_cases e : j = k
    · subst e; rw [hx] at hy; cases hy; exact hm
    · exact h.lm j y (by omega) hy
theorem LA.end_ {P rest : List Int} {p : Nat} {l : Int} (h : LA P rest P.length p l) (hp : 0 < P.length) : Pl.fm P rest = p := by
  have hlt := h.lt hp
  have hl := h.pl hp _ (List.getElem?_eq_getElem hlt)
  refine Pl.fm_of ⟨hlt, fun q hq => ?_, fun j hj => ?_⟩
  · obtain ⟨j, hj, e⟩ := List.mem_iff_getElem.1 hq
    have := h.max j q hj (by rw [List.getElem?_eq_getElem hj, e])
    omega
  · have := h.first j _ hj (List.getElem?_eq_getElem (by omega))
    omega
theorem LA.never {P rest : List Int} {k p : Nat} {l : Int} (h : LA P rest k p l) {x : Int} (hx : P[k]? = some x) (hm : x ∉ rest) : Pl.fm P rest = k := by
  obtain ⟨hk, e⟩ := List.getElem?_eq_some_iff.1 hx
  have hxl : rest.idxOf x = rest.length := List.idxOf_eq_length hm
  refine Pl.fm_of ⟨hk, fun q _ => ?_, fun j hj => ?_⟩
  · rw [e, hxl]; exact List.idxOf_le_length
  · rw [e, hxl]
    exact List.idxOf_lt_length_of_mem (h.lm j _ hj (List.getElem?_eq_getElem (by omega)))

set_option maxHeartbeats 1000000 in
theorem last_any (w : World) (a1 a2 : Option Addr) (c1 c2 : Nat) (P rest : List Int) (h1 : IntsAt w a1 P) (h2 : IntsAt w a2 rest) (hP : 0 < P.length) (hn : P.length ≤ 50) (hr : rest.length ≤ 2000) :
    Calls Try.prog 114 #[.slice a1 P.length c1, .slice a2 rest.length c2] w fun e w' => e = .returned (.int .i64 (Pl.fm P rest : Int)) ∧ Below w.heap.size w w' := by
  have H1 := hid h1
  have H2 := hid h2
  obtain ⟨Y, hY⟩ : ∃ Y, Y = Pl.fm P rest := ⟨_, rfl⟩
  rw [← hY]
  have HY := hid hY
  clear h1 h2 hY
  go_enter Try.func114, Try.ntmps114
  go_wp2_with fail
  go_loopw [12, 5, 6] (fun i p l wr => ∃ (k q : Nat) (m : Int), k ≤ P.length ∧ i = .int .i64 (k : Int) ∧ p = .int .i64 (q : Int) ∧ l = .int .i64 m ∧ Hid (LA P rest k q m) ∧ Hid (Below w.heap.size w wr)) (fun i _ _ _ => P.length - (intOf i).toNat)
  case atStart => exact ⟨0, 0, -1, Nat.zero_le _, rfl, rfl, rfl, LA.zero _ _, Below.refl _ _⟩
  case round =>
    obtain ⟨k, q, m, hk, rfl, rfl, rfl, hL, hb⟩ := hrel
    by_cases hlt : k < P.length
    · obtain ⟨x, hx⟩ : ∃ x, P[k]? = some x := ⟨_, List.getElem?_eq_getElem hlt⟩
      obtain ⟨b, o, rfl, d1⟩ := (H1.out.below hb.out) k x hx
      have k0 : (0 : Int) ≤ (k : Int) := by omega
      have k1 : (k : Int) < (P.length : Int) := by omega
      have HI := hid (index_any wr a2 c2 rest x (H2.out.below hb.out) (by omega))
      have HX := hid hx
      clear hx
      by_cases hm : x ∈ rest
      · have hp : place rest x = (rest.idxOf x : Int) := by unfold place; rw [if_pos hm]
        rw [hp] at HI
        have hj := List.idxOf_lt_length_of_mem hm
        have HM := hid hm
        clear hp hm
        obtain ⟨j, hJ⟩ : ∃ j, j = rest.idxOf x := ⟨_, rfl⟩
        rw [← hJ] at HI hj
        have HJ := hid hJ
        clear hJ
        have x0 : decide ((j : Int) < 0) = false := by simp
        have x1 : ¬ (j : Int) < 0 := by omega
        by_cases hl : m < (j : Int)
        · have x2 : decide (m < (j : Int)) = true := by simpa using hl
          have NX : Hid (LA P rest (k + 1) k (j : Int)) := by rw [HJ.out]; exact hL.out.turn HX.out HM.out (by rw [← HJ.out]; exact hl)
          go_wp2_with fail
          refine (HI.out).mono ?_
          rintro r w2 ⟨rfl, hb2⟩
          have B2 := hid (below_tr hb.out hb2)
          clear hb2
          go_wp2_with fail
          go_roundw
          case rel => exact ⟨k + 1, k, j, by omega, by go_num, rfl, rfl, NX, B2⟩
          case measure => simp [intOf]; omega
        · have x2 : decide (m < (j : Int)) = false := by simpa using hl
          have NX : Hid (LA P rest (k + 1) q m) := hL.out.keep HX.out HM.out (by rw [← HJ.out]; omega)
          go_wp2_with fail
          refine (HI.out).mono ?_
          rintro r w2 ⟨rfl, hb2⟩
          have B2 := hid (below_tr hb.out hb2)
          clear hb2
          go_wp2_with fail
          go_roundw
          case rel => exact ⟨k + 1, q, m, by omega, by go_num, rfl, rfl, NX, B2⟩
          case measure => simp [intOf]; omega
      · have hp : place rest x = -1 := by unfold place; rw [if_neg hm]
        rw [hp] at HI
        have HK : Hid (Y = k) := by show _ = _; rw [HY.out]; exact hL.out.never HX.out hm
        clear hp hm HY
        go_wp2_with fail
        refine (HI.out).mono ?_
        rintro r w2 ⟨rfl, hb2⟩
        have B2 := hid (below_tr hb.out hb2)
        clear hb2
        go_wp2_with fail
        go_ret
        exact ⟨by rw [HK.out]; rfl, B2.out⟩
    · obtain rfl : k = P.length := by omega
      have j3 : decide ((P.length : Int) < (P.length : Int)) = false := by simp
      have HK : Hid (Y = q) := by show _ = _; rw [HY.out]; exact hL.out.end_ hP
      clear HY
      go_wp2_with fail
      go_ret
      exact ⟨by rw [HK.out]; rfl, hb.out⟩

/-! ### What is handed to keep -/
theorem goes_or {co : Nat → Prop} {g : Nat} {w w' : World} (h : Goes (fun b => b = g) w w' (fun b => b = g)) : Goes (fun b => co b ∨ b = g) w w' (fun b => co b ∨ b = g) :=
  ⟨h.os, h.tape, h.output, h.size, fun k hk hn => h.block k hk (fun e => hn (.inr e)), fun _ hk => .inl hk⟩
theorem goes_nil {co : Nat → Prop} {w w' : World} (h : Below w.heap.size w w') : Goes co w w' co := ⟨h.os, h.tape, h.output, h.size, fun k hk _ => h.block k hk, fun _ hk => .inl hk⟩

theorem leave_any (W : World) (v u : Value) : Calls Try.prog 110 #[v, u] W fun e W' => e = .returned (.tuple #[]) ∧ W' = W := by
  go_enter Try.func110, Try.ntmps110
  go_wp2_with fail
  go_end0
  exact ⟨rfl, rfl⟩
theorem front_any (W : World) (base g c : Nat) (P : List Int) (u : Value) (h : OwnInts W base (.slice (some ⟨g, 0, none⟩) P.length c) P) (hk : 0 < P.length) (hn : P.length ≤ 2000) :
    Calls Try.prog 107 #[.slice (some ⟨g, 0, none⟩) P.length c, u] W fun e W' => e = .returned (.int .i64 ((P.length - 1 : Nat) : Int)) ∧ OwnInts W' base (.slice (some ⟨g, 0, none⟩) P.length c) (Pl.behind P 0) ∧ Goes (fun b => b = g) W W' (fun b => b = g) := by
  have HM := hid (move_any W base g c P 0 h hk hn)
  rw [Int.natCast_zero] at HM
  clear h
  go_enter Try.func107, Try.ntmps107
  go_wp2_with fail
  refine (HM.out).mono ?_
  rintro r w1 ⟨rfl, q1, q2⟩
  have Q1 := hid q1
  have Q2 := hid q2
  clear q1 q2
  go_wp2_with fail
  go_ret
  exact ⟨rfl, Q1.out, Q2.out⟩
theorem front2_any (W : World) (base g c : Nat) (P : List Int) (u : Value) (h : OwnInts W base (.slice (some ⟨g, 0, none⟩) P.length c) P) (hk : 0 < P.length) (hn : P.length ≤ 2000) :
    Calls Try.prog 112 #[.slice (some ⟨g, 0, none⟩) P.length c, u] W fun e W' => e = .returned (.int .i64 ((P.length - 1 : Nat) : Int)) ∧ OwnInts W' base (.slice (some ⟨g, 0, none⟩) P.length c) (Pl.behind P 0) ∧ Goes (fun b => b = g) W W' (fun b => b = g) := by
  have HM := hid (move_any W base g c P 0 h hk hn)
  rw [Int.natCast_zero] at HM
  clear h
  go_enter Try.func112, Try.ntmps112
  go_wp2_with fail
  refine (HM.out).mono ?_
  rintro r w1 ⟨rfl, q1, q2⟩
  have Q1 := hid q1
  have Q2 := hid q2
  clear q1 q2
  go_wp2_with fail
  go_ret
  exact ⟨rfl, Q1.out, Q2.out⟩
theorem back_any (W : World) (base g c : Nat) (P : List Int) (k : Nat) (h : OwnInts W base (.slice (some ⟨g, 0, none⟩) P.length c) P) (hk : k < P.length) (hn : P.length ≤ 2000) :
    Calls Try.prog 111 #[.slice (some ⟨g, 0, none⟩) P.length c, .int .i64 (k : Int)] W fun e W' => e = .returned (.tuple #[]) ∧ OwnInts W' base (.slice (some ⟨g, 0, none⟩) P.length c) (Pl.behind P k) ∧ Goes (fun b => b = g) W W' (fun b => b = g) := by
  have HM := hid (move_any W base g c P k h hk hn)
  clear h
  go_enter Try.func111, Try.ntmps111
  go_wp2_with fail
  refine (HM.out).mono ?_
  rintro r w1 ⟨rfl, q1, q2⟩
  have Q1 := hid q1
  have Q2 := hid q2
  clear q1 q2
  go_wp2_with fail
  go_end0
  exact ⟨rfl, Q1.out, Q2.out⟩

theorem fifo_does (k : Nat) (hk1 : 1 ≤ k) (hk2 : k ≤ 50) (refs : List Int) (w : World) : Does Pl.fifoR k refs w (fun _ => False) (fun _ _ => True) 110 107 #[] #[] := by
  refine ⟨fun _ _ => rfl, fun _ _ => rfl, fun _ h => h.elim, fun _ _ _ _ _ => trivial, fun W s P g c j _ _ h _ _ => ?_, fun W s P g c t _ _ h hP _ => ?_⟩
  · rw [Array.append_empty]
    refine (leave_any W _ _).mono ?_
    rintro e W' ⟨rfl, rfl⟩
    exact ⟨rfl, trivial, h, Goes.refl _ _⟩
  · rw [Array.append_empty]
    refine (front_any W _ g c P _ h (by omega) (by omega)).mono ?_
    rintro e W' ⟨rfl, q1, q2⟩
    exact ⟨rfl, trivial, q1, goes_or q2, by show P.length - 1 < P.length; omega⟩
theorem lru_does (k : Nat) (hk1 : 1 ≤ k) (hk2 : k ≤ 50) (refs : List Int) (w : World) : Does Pl.lruR k refs w (fun _ => False) (fun _ _ => True) 111 112 #[] #[] := by
  refine ⟨fun _ _ => rfl, fun _ _ => rfl, fun _ h => h.elim, fun _ _ _ _ _ => trivial, fun W s P g c j _ _ h hj hP => ?_, fun W s P g c t _ _ h hP _ => ?_⟩
  · rw [Array.append_empty]
    refine (back_any W _ g c P j h hj (by omega)).mono ?_
    rintro e W' ⟨rfl, q1, q2⟩
    exact ⟨rfl, trivial, q1, goes_or q2⟩
  · rw [Array.append_empty]
    refine (front2_any W _ g c P _ h (by omega) (by omega)).mono ?_
    rintro e W' ⟨rfl, q1, q2⟩
    exact ⟨rfl, trivial, q1, goes_or q2, by show P.length - 1 < P.length; omega⟩

/-- What a pool's call answers. -/
structure Ans (w w' : World) (e : Ending) (code : Int) (O : List Bool × List Int) : Prop where
  val : ∃ a1 c1 a2 c2, e = .returned (.tuple #[.slice a1 O.1.length c1, .slice a2 O.2.length c2, .int .i64 code]) ∧ BoolsAt w' a1 O.1 ∧ IntsAt w' a2 O.2 ∧ O.2.length ≤ c2
  below : Below w.heap.size w w'
/-- What a rule makes of it. -/
def out {S : Type} (R : Pl.Rule S) (s0 : S) (size : Int) (refs : List Int) : List Bool × List Int := if chk size refs.length = 0 then ((R.run size.toNat (s0, []) refs).1, (R.run size.toNat (s0, []) refs).2.2) else ([], [])
theorem chk_zero {size : Int} {n : Nat} (h : chk size n = 0) : 1 ≤ size.toNat ∧ size.toNat ≤ 50 ∧ (size.toNat : Int) = size ∧ n ≤ 2000 := by
  unfold chk at h
  split at h
  · cases h
  · split at h
    · cases h
    · omega
theorem Ans.bad {S : Type} (R : Pl.Rule S) (s0 : S) {w w' : World} {size : Int} {refs : List Int} (h : chk size refs.length ≠ 0) (hb : Below w.heap.size w w') : Ans w w' (.returned (.tuple #[.slice none 0 0, .slice none 0 0, .int .i64 (chk size refs.length)])) (chk size refs.length) (out R s0 size refs) := by
  unfold out
  rw [if_neg h]
  exact ⟨⟨none, 0, none, 0, rfl, RowAt.nil _ _, RowAt.nil _ _, Nat.le_refl _⟩, hb⟩
theorem run_len {S : Type} (R : Pl.Rule S) (k : Nat) : ∀ (refs : List Int) (s : S × List Int), (R.run k s refs).1.length = refs.length
  | [], _ => rfl
  | r :: rs, s => by
    show ((decide (r ∈ s.2)) :: (R.run k (R.step k s r rs) rs).1).length = _
    rw [List.length_cons, run_len R k rs, List.length_cons]
theorem Ans.good {S : Type} (R : Pl.Rule S) (s0 : S) {w w1 w' : World} {size : Int} {refs : List Int} {pv : Value} (h : chk size refs.length = 0)
    (h1 : OwnBools w' w1.heap.size (.slice (some ⟨w1.heap.size, 0, none⟩) refs.length refs.length) (R.run size.toNat (s0, []) refs).1) (h2 : OwnInts w' (w1.heap.size + 1) pv (R.run size.toNat (s0, []) refs).2.2) (hb : Below w.heap.size w w') :
    Ans w w' (.returned (.tuple #[.slice (some ⟨w1.heap.size, 0, none⟩) refs.length refs.length, pv, .int .i64 0])) (chk size refs.length) (out R s0 size refs) := by
  unfold out
  rw [if_pos h, h]
  obtain ⟨a2, c2, rfl, i2, _, i3, _⟩ := h2.at_
  obtain ⟨a1, c1, e1, i1, _⟩ := h1.at_
  refine ⟨⟨a1, c1, a2, c2, ?_, i1, i2, i3⟩, hb⟩
  rw [← e1]

set_option maxHeartbeats 1000000 in
theorem fifo_any (w : World) (size : Int) (a : Option Addr) (c : Nat) (refs : List Int) (h : IntsAt w a refs) :
    Calls Try.prog 63 #[.int .i64 size, .slice a refs.length c] w fun e w' => Ans w w' e (chk size refs.length) (out Pl.fifoR () size refs) := by
  by_cases hc : chk size refs.length = 0
  · obtain ⟨h1, h2, h3, h4⟩ := chk_zero hc
    have HK := hid (keep_ok Pl.fifoR size.toNat refs w _ _ _ _ _ _ (fifo_does size.toNat h1 h2 refs w) () trivial a c h (fun _ _ _ e => e) h1 h2 h4)
    rw [h3] at HK
    have HC := hid hc
    clear h h1 h2 h3 h4 hc
    go_enter Try.func63, Try.ntmps63
    go_wp2_with fail
    refine (HK.out).mono ?_
    rintro r w1 ⟨pv, rfl, q1, q2, q3⟩
    have hA : Hid (∀ e, e = Ending.returned (.tuple #[.slice (some ⟨w.heap.size, 0, none⟩) refs.length refs.length, pv, .int .i64 0]) → Ans w w1 e (chk size refs.length) (out Pl.fifoR () size refs)) := fun e he => by rw [he]; exact Ans.good _ _ HC.out q1 q2 (q3.below (Nat.le_refl _) (fun _ e => e.elim))
    obtain ⟨pa, pc, rfl, _⟩ := q2.at_
    clear q1 q2 q3
    go_wp2_with fail
    go_ret3
    exact hA.out _ rfl
  · have HK := hid (keep_bad size w a refs.length c (.func (.func 110) #[] #[]) (.func (.func 107) #[] #[]) hc)
    have hA : Hid (∀ e, e = Ending.returned (.tuple #[.slice none 0 0, .slice none 0 0, .int .i64 (chk size refs.length)]) → Ans w w e (chk size refs.length) (out Pl.fifoR () size refs)) := fun e he => by rw [he]; exact Ans.bad _ _ hc (Below.refl _ _)
    clear h hc
    go_enter Try.func63, Try.ntmps63
    go_wp2_with fail
    refine (HK.out).mono ?_
    rintro r w1 ⟨rfl, rfl⟩
    go_wp2_with fail
    go_ret3
    exact hA.out _ rfl

set_option maxHeartbeats 1000000 in
theorem lru_any (w : World) (size : Int) (a : Option Addr) (c : Nat) (refs : List Int) (h : IntsAt w a refs) :
    Calls Try.prog 64 #[.int .i64 size, .slice a refs.length c] w fun e w' => Ans w w' e (chk size refs.length) (out Pl.lruR () size refs) := by
  by_cases hc : chk size refs.length = 0
  · obtain ⟨h1, h2, h3, h4⟩ := chk_zero hc
    have HK := hid (keep_ok Pl.lruR size.toNat refs w _ _ _ _ _ _ (lru_does size.toNat h1 h2 refs w) () trivial a c h (fun _ _ _ e => e) h1 h2 h4)
    rw [h3] at HK
    have HC := hid hc
    clear h h1 h2 h3 h4 hc
    go_enter Try.func64, Try.ntmps64
    go_wp2_with fail
    refine (HK.out).mono ?_
    rintro r w1 ⟨pv, rfl, q1, q2, q3⟩
    have hA : Hid (∀ e, e = Ending.returned (.tuple #[.slice (some ⟨w.heap.size, 0, none⟩) refs.length refs.length, pv, .int .i64 0]) → Ans w w1 e (chk size refs.length) (out Pl.lruR () size refs)) := fun e he => by rw [he]; exact Ans.good _ _ HC.out q1 q2 (q3.below (Nat.le_refl _) (fun _ e => e.elim))
    obtain ⟨pa, pc, rfl, _⟩ := q2.at_
    clear q1 q2 q3
    go_wp2_with fail
    go_ret3
    exact hA.out _ rfl
  · have HK := hid (keep_bad size w a refs.length c (.func (.func 111) #[] #[]) (.func (.func 112) #[] #[]) hc)
    have hA : Hid (∀ e, e = Ending.returned (.tuple #[.slice none 0 0, .slice none 0 0, .int .i64 (chk size refs.length)]) → Ans w w e (chk size refs.length) (out Pl.lruR () size refs)) := fun e he => by rw [he]; exact Ans.bad _ _ hc (Below.refl _ _)
    clear h hc
    go_enter Try.func64, Try.ntmps64
    go_wp2_with fail
    refine (HK.out).mono ?_
    rintro r w1 ⟨rfl, rfl⟩
    go_wp2_with fail
    go_ret3
    exact hA.out _ rfl

end Go.Proofs.Ytlcpioeobnjcdaa.PPool
