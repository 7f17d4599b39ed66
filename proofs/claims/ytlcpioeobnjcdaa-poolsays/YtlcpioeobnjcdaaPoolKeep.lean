/- pool.keep, walked over whatever two functions are handed in, by what these do. Conditions: each keeps to its part. -/
import Derived.Test.YtlcpioeobnjcdaaPoolMove
namespace Go.Proofs.Ytlcpioeobnjcdaa.PPool
open Go Go.RowKit
set_option maxRecDepth 100000

theorem RowAt.goes {α : Type} {enc : α → Value} {own : Nat → Prop} {w w' : World} {a : Option Addr} {X : List α} (h : RowAt enc w a X) (hg : Goes own w w' own) (ho : 0 < X.length → ∀ q, a = some q → ¬ own q.block) : RowAt enc w' a X := fun j x hj => by
  have hp : 0 < X.length := by have := (List.getElem?_eq_some_iff.1 hj).1; omega
  obtain ⟨b, o, e, h1⟩ := h j x hj
  exact ⟨b, o, e, (World.cell?_of_block (a := ⟨b, o + j, none⟩) (hg.block b (World.block_lt_of_cell? w _ h1) (ho hp _ e))).trans h1⟩
theorem goes_step {co : Nat → Prop} {g : Nat} {w wr wr' : World} (h : Goes co w wr co) (k : Goes (fun b => co b ∨ b = g) wr wr' (fun b => co b ∨ b = g)) (hg : w.heap.size ≤ g) : Goes co w wr' co :=
  ⟨k.os.trans h.os, k.tape.trans h.tape, k.output.trans h.output, Nat.le_trans h.size k.size,
   fun i hi hn => (k.block i (Nat.lt_of_lt_of_le hi h.size) (fun e => by rcases e with e | e; exact hn e; omega)).trans (h.block i hi hn), fun _ hk => .inl hk⟩

/-- What a rule's two functions do: co what they write to, Mem what they have there, from the world w on. -/
structure Does {S : Type} (R : Pl.Rule S) (k : Nat) (refs : List Int) (w : World) (co : Nat → Prop) (Mem : World → S → Prop) (fa fg : Nat) (ca cg : Array Value) : Prop where
  entA : ∀ (args : Array Value) (W : World), (callFunc fa args).run Try.prog W = .ok (.enter fa args) W
  entG : ∀ (args : Array Value) (W : World), (callFunc fg args).run Try.prog W = .ok (.enter fg args) W
  old : ∀ b, co b → b < w.heap.size
  stays : ∀ W W' s, Mem W s → (∀ b, b < w.heap.size → W'.heap[b]? = W.heap[b]?) → Mem W' s
  asked : ∀ W s P g c (j : Nat), Mem W s → Goes co w W co → OwnInts W (w.heap.size + 1) (.slice (some ⟨g, 0, none⟩) P.length c) P → j < P.length → P.length ≤ k →
    Calls Try.prog fa (#[.slice (some ⟨g, 0, none⟩) P.length c, .int .i64 (j : Int)] ++ ca) W fun e W' => e = .returned (.tuple #[]) ∧ Mem W' (R.asked s P j).1 ∧ OwnInts W' (w.heap.size + 1) (.slice (some ⟨g, 0, none⟩) P.length c) (R.asked s P j).2 ∧ Goes (fun b => co b ∨ b = g) W W' (fun b => co b ∨ b = g)
  goes : ∀ W s P g c (t : Nat), Mem W s → Goes co w W co → OwnInts W (w.heap.size + 1) (.slice (some ⟨g, 0, none⟩) P.length c) P → P.length = k → t < refs.length →
    Calls Try.prog fg (#[.slice (some ⟨g, 0, none⟩) P.length c, .int .i64 (t : Int)] ++ cg) W fun e W' => e = .returned (.int .i64 ((R.goes s P (refs.drop (t + 1))).2.2 : Int)) ∧ Mem W' (R.goes s P (refs.drop (t + 1))).1 ∧ OwnInts W' (w.heap.size + 1) (.slice (some ⟨g, 0, none⟩) P.length c) (R.goes s P (refs.drop (t + 1))).2.1 ∧ Goes (fun b => co b ∨ b = g) W W' (fun b => co b ∨ b = g) ∧ (R.goes s P (refs.drop (t + 1))).2.2 < P.length

theorem bool_info : (Try.prog.info? 4).map (fun i => (i.zero, i.size, i.bytes)) = some (some (.bool false), 1, 1) := by kernel_rfl
theorem int_info : (Try.prog.info? 3).map (fun i => (i.zero, i.size, i.bytes)) = some (some (.int .i64 0), 1, 8) := by kernel_rfl
theorem made_bools (n : Nat) : madeCells #[.bool false] (n * 1) = ((List.replicate n false).map Value.bool).toArray := by
  apply Array.ext'
  unfold madeCells
  rw [Array.toList_map, Array.toList_range, List.map_replicate]
  apply List.ext_getElem?
  intro j
  rw [List.getElem?_map]
  show _ = (List.replicate n (Value.bool false))[j]?
  rw [List.getElem?_replicate]
  by_cases hj : j < n
  · rw [List.getElem?_range (by omega), if_pos hj]
    simp [Nat.mod_one]
  · rw [List.getElem?_eq_none (by simp; omega), if_neg hj]
    rfl
theorem OwnBools.made (w : World) (n : Nat) (hn : n ≤ maxLen) : OwnBools (w.alloc (.cells (madeCells #[.bool false] (n * 1)) 4)) w.heap.size (.slice (some ⟨w.heap.size, 0, none⟩) n n) (List.replicate n false) := by
  rw [made_bools]
  refine ⟨by simp, .inr ⟨w.heap.size, n, _, by simp, Nat.le_refl _, heap_alloc_new w _, by simp, hn, by simp, ?_⟩⟩
  simp

/-- Bools in the making. -/
def grow (H : List Bool) (n : Nat) : List Bool := H ++ List.replicate (n - H.length) false
theorem grow_len {H : List Bool} {n : Nat} (h : H.length ≤ n) : (grow H n).length = n := by unfold grow; simp; omega
theorem grow_all {H : List Bool} {n : Nat} (h : H.length = n) : grow H n = H := by unfold grow; simp [h]
theorem grow_false {H : List Bool} {n : Nat} (h : H.length < n) : grow (H ++ [false]) n = grow H n := by
  unfold grow
  rw [List.length_append, List.append_assoc]
  congr 1
  have : n - H.length = (n - (H.length + 1)) + 1 := by omega
  rw [this, List.replicate_succ]
  rfl
theorem grow_true {H : List Bool} {n : Nat} (h : H.length < n) : (grow H n).set H.length true = grow (H ++ [true]) n := by
  unfold grow
  rw [List.set_append_right _ _ (Nat.le_refl _), Nat.sub_self, List.length_append, List.append_assoc]
  congr 1
  have : n - H.length = (n - (H.length + 1)) + 1 := by omega
  rw [this, List.replicate_succ, List.set_cons_zero]
  rfl
theorem grow_at {H : List Bool} {n : Nat} (h : H.length < n) : (grow H n)[H.length]? = some false := by
  unfold grow
  rw [List.getElem?_append_right (Nat.le_refl _), Nat.sub_self, List.getElem?_replicate, if_pos (by omega)]

/-- How a pool stands behind t refs. -/
structure Under {S : Type} (R : Pl.Rule S) (k : Nat) (refs : List Int) (s0 : S) (w wr : World) (co : Nat → Prop) (Mem : World → S → Prop) (pv : Value) (s : S) (P : List Int) (H : List Bool) : Prop where
  le : P.length ≤ k
  lt : H.length ≤ refs.length
  mem : Mem wr s
  pages : OwnInts wr (w.heap.size + 1) pv P
  hits : OwnBools wr w.heap.size (.slice (some ⟨w.heap.size, 0, none⟩) refs.length refs.length) (grow H refs.length)
  goes : Goes co w wr co
  size : w.heap.size + 1 ≤ wr.heap.size
  run : R.run k (s0, []) refs = (H ++ (R.run k (s, P) (refs.drop H.length)).1, (R.run k (s, P) (refs.drop H.length)).2)

section under
variable {S : Type} {R : Pl.Rule S} {k : Nat} {refs : List Int} {s0 : S} {w wr : World} {co : Nat → Prop} {Mem : World → S → Prop} {fa fg : Nat} {ca cg : Array Value} {pv : Value} {s : S} {P : List Int} {H : List Bool}

theorem Under.below (D : Does R k refs w co Mem fa fg ca cg) (h : Under R k refs s0 w wr co Mem pv s P H) {w1 : World} (hb : Below wr.heap.size wr w1) : Under R k refs s0 w w1 co Mem pv s P H :=
  ⟨h.le, h.lt, D.stays _ _ _ h.mem (fun b hb' => hb.block b (by have := h.size; omega)), h.pages.below hb, h.hits.below hb, goes_below h.goes hb, Nat.le_trans h.size hb.size, h.run⟩
/-- One ref more. -/
theorem Under.next (h : Under R k refs s0 w wr co Mem pv s P H) {r : Int} (hr : refs[H.length]? = some r) {w1 : World} {pv' : Value} {q : S × List Int} (e : q = R.step k (s, P) r (refs.drop (H.length + 1))) (hle : q.2.length ≤ k) (hm : Mem w1 q.1)
    (hp : OwnInts w1 (w.heap.size + 1) pv' q.2) (hh : OwnBools w1 w.heap.size (.slice (some ⟨w.heap.size, 0, none⟩) refs.length refs.length) (grow (H ++ [decide (r ∈ P)]) refs.length)) (hg : Goes co w w1 co) (hs : w.heap.size + 1 ≤ w1.heap.size) :
    Under R k refs s0 w w1 co Mem pv' q.1 q.2 (H ++ [decide (r ∈ P)]) := by
  obtain ⟨g1, g2⟩ := List.getElem?_eq_some_iff.1 hr
  refine ⟨hle, by simp; omega, hm, hp, hh, hg, hs, ?_⟩
  rw [h.run, List.drop_eq_getElem_cons g1, g2]
  subst e
  simp [Pl.Rule.run, Pl.go]
/-- A hit is laid down. -/
theorem Under.mark (D : Does R k refs w co Mem fa fg ca cg) (h : Under R k refs s0 w wr co Mem pv s P H) (hl : H.length < refs.length) :
    Mem (wr.setCell ⟨w.heap.size, H.length, none⟩ (.bool true)) s ∧ OwnInts (wr.setCell ⟨w.heap.size, H.length, none⟩ (.bool true)) (w.heap.size + 1) pv P ∧
      OwnBools (wr.setCell ⟨w.heap.size, H.length, none⟩ (.bool true)) w.heap.size (.slice (some ⟨w.heap.size, 0, none⟩) refs.length refs.length) (grow (H ++ [true]) refs.length) ∧
      Goes co w (wr.setCell ⟨w.heap.size, H.length, none⟩ (.bool true)) co ∧ w.heap.size + 1 ≤ (wr.setCell ⟨w.heap.size, H.length, none⟩ (.bool true)).heap.size := by
  refine ⟨D.stays _ _ _ h.mem (fun b hb => Below.heap_setCell _ _ _ _ (fun e => by have e : b = w.heap.size := e; omega)), h.pages.keep (fun g hg => Below.heap_setCell _ _ _ _ (fun e => by have e : g = w.heap.size := e; have := (h.pages.lt g hg).1; omega)), ?_, h.goes.setCell (q := ⟨w.heap.size, H.length, none⟩) (.inr (Nat.le_refl _)) _, by have := h.size; simpa using this⟩
  have := h.hits.set H.length true
  rwa [grow_true hl] at this
/-- Behind what the two functions do the bools stay. -/
theorem keep_bools (D : Does R k refs w co Mem fa fg ca cg) {w1 w2 : World} {g : Nat} {n c : Nat} {X : List Bool} (h : OwnBools w1 w.heap.size (.slice (some ⟨w.heap.size, 0, none⟩) n c) X) (hg : w.heap.size + 1 ≤ g)
    (k : Goes (fun b => co b ∨ b = g) w1 w2 (fun b => co b ∨ b = g)) : OwnBools w2 w.heap.size (.slice (some ⟨w.heap.size, 0, none⟩) n c) X :=
  h.keep fun b hb => k.block b (h.lt b hb).2 (fun e => by
    have hb : w.heap.size = b := by simpa [Value.ownBlock] using hb
    rcases e with e | e
    · have := D.old b e; omega
    · omega)
theorem asked_len (D : Does R k refs w co Mem fa fg ca cg) {W : World} {a : Option Addr} {n c base : Nat} {X : List Int} (h : OwnInts W base (.slice a n c) X) : X.length = n := by
  have _ := D
  exact h.len.symm
/-- A page is laid behind the others. -/
theorem Under.added (D : Does R k refs w co Mem fa fg ca cg) (h : Under R k refs s0 w wr co Mem pv s P H) (o : Obj) {w4 : World} (hg : (wr.alloc o).grownBy w4 pv.ownBlock) :
    Mem w4 s ∧ OwnBools w4 w.heap.size (.slice (some ⟨w.heap.size, 0, none⟩) refs.length refs.length) (grow H refs.length) ∧ Goes co w w4 co ∧ w.heap.size + 1 ≤ w4.heap.size := by
  have hs := h.size
  have hsz : (wr.alloc o).heap.size = wr.heap.size + 1 := by simp
  have hb : ∀ b, b ≤ w.heap.size → w4.heap[b]? = wr.heap[b]? := fun b hb => (hg.block b (by omega) (fun e => by have := (h.pages.lt b e.symm).1; omega)).trans (Below.heap_alloc wr o b (by omega))
  refine ⟨D.stays _ _ _ h.mem (fun b hb' => hb b (by omega)), h.hits.keep (fun b hb' => hb b ?_), (h.goes.alloc o).grown hg (fun b hb' => .inr (by have := (h.pages.lt b hb').1; omega)), by have := hg.size; omega⟩
  have : w.heap.size = b := by simpa [Value.ownBlock] using hb'
  omega
/-- A page goes, the new one stands for it. -/
theorem Under.gone (D : Does R k refs w co Mem fa fg ca cg) {g n c : Nat} (h : Under R k refs s0 w wr co Mem (.slice (some ⟨g, 0, none⟩) n c) s P H) {w3 : World} {s1 : S} {Q : List Int} {j : Nat} (x : Int) (h1 : Mem w3 s1) (h2 : OwnInts w3 (w.heap.size + 1) (.slice (some ⟨g, 0, none⟩) n c) Q)
    (h3 : Goes (fun b => co b ∨ b = g) wr w3 (fun b => co b ∨ b = g)) :
    Mem (w3.setCell ⟨g, j, none⟩ (.int .i64 x)) s1 ∧ OwnInts (w3.setCell ⟨g, j, none⟩ (.int .i64 x)) (w.heap.size + 1) (.slice (some ⟨g, 0, none⟩) n c) (Q.set j x) ∧
      OwnBools (w3.setCell ⟨g, j, none⟩ (.int .i64 x)) w.heap.size (.slice (some ⟨w.heap.size, 0, none⟩) refs.length refs.length) (grow H refs.length) ∧
      Goes co w (w3.setCell ⟨g, j, none⟩ (.int .i64 x)) co ∧ w.heap.size + 1 ≤ (w3.setCell ⟨g, j, none⟩ (.int .i64 x)).heap.size := by
  have hg := (h2.lt g rfl).1
  refine ⟨D.stays _ _ _ h1 (fun b hb => Below.heap_setCell _ _ _ _ (fun e => by have e : b = g := e; omega)), h2.set j x, (keep_bools D h.hits hg h3).keep (fun b hb => Below.heap_setCell _ _ _ _ (fun e => ?_)), (goes_step h.goes h3 (by omega)).setCell (q := ⟨g, j, none⟩) (.inr (by show w.heap.size ≤ g; omega)) _, ?_⟩
  · have e : b = g := e
    have : w.heap.size = b := by simpa [Value.ownBlock] using hb
    omega
  · have := h.size; have := h3.size; simpa using (by omega : w.heap.size + 1 ≤ w3.heap.size)
end under

set_option maxHeartbeats 1000000 in
theorem keep_ok {S : Type} (R : Pl.Rule S) (k : Nat) (refs : List Int) (w : World) (co : Nat → Prop) (Mem : World → S → Prop) (fa fg : Nat) (ca cg : Array Value) (D : Does R k refs w co Mem fa fg ca cg) (s0 : S) (hs0 : Mem w s0)
    (a : Option Addr) (c : Nat) (hrefs : IntsAt w a refs) (hco : 0 < refs.length → ∀ q, a = some q → ¬ co q.block) (hk1 : 1 ≤ k) (hk2 : k ≤ 50) (hn : refs.length ≤ 2000) :
    Calls Try.prog 109 #[.int .i64 (k : Int), .slice a refs.length c, .func (.func fa) #[] ca, .func (.func fg) #[] cg] w fun e w' => ∃ pv, e = .returned (.tuple #[.slice (some ⟨w.heap.size, 0, none⟩) refs.length refs.length, pv, .int .i64 0]) ∧
      OwnBools w' w.heap.size (.slice (some ⟨w.heap.size, 0, none⟩) refs.length refs.length) (R.run k (s0, []) refs).1 ∧ OwnInts w' (w.heap.size + 1) pv (R.run k (s0, []) refs).2.2 ∧ Goes co w w' co := by
  have HC := hid (check_any w (k : Int) a refs.length c)
  have hc0 : chk (k : Int) refs.length = 0 := by unfold chk; rw [if_neg (by omega), if_neg (by omega)]
  rw [hc0] at HC
  obtain ⟨i0, hi, hz0, hz1, hz2⟩ := info_parts bool_info
  have hmk : ∀ W, (Instr.makeSlice 49 (.int .i64 (refs.length : Int)) (.int .i64 (refs.length : Int))).run Try.prog W = .ok (.slice (some ⟨W.heap.size, 0, none⟩) refs.length refs.length) (W.alloc (.cells (madeCells #[.bool false] (refs.length * 1)) 4)) := by
    intro W
    have := run_make (P := Try.prog) W 49 4 i0 (.bool false) Try.underlying49 hi hz0 .i64 .i64 refs.length refs.length (by omega) (by omega) (by rw [hz2]; omega) (by omega)
    rw [hz1] at this
    exact this
  clear hi hz0 hz1 hz2
  obtain ⟨i3, hi, hz0, hz1, hz2⟩ := info_parts int_info
  have HD := hid D
  have ea := D.entA
  have eg := D.entG
  have HR := hid hrefs
  have HO := hid hco
  have U0 : Hid (Under R k refs s0 w (w.alloc (.cells (madeCells #[.bool false] (refs.length * 1)) 4)) co Mem (.slice none 0 0) s0 [] []) := by
    refine ⟨Nat.zero_le _, Nat.zero_le _, D.stays _ _ _ hs0 (fun b hb => Below.heap_alloc w _ b hb), OwnR.nil _ _, ?_, (Goes.refl co w).alloc _, by simp, by simp⟩
    have := OwnBools.made w refs.length (by unfold maxLen; omega)
    simpa [grow] using this
  have kk : (k : Int) ≤ 50 := by omega
  have k11 : (1 : Int) ≤ (k : Int) := by omega
  have nn : (refs.length : Int) ≤ 2000 := by omega
  clear hrefs hco D hc0 hs0
  go_enter Try.func109, Try.ntmps109
  go_wp2_with fail
  refine (HC.out).mono ?_
  rintro r w1 ⟨rfl, rfl⟩
  go_wp2_with fail
  go_loopw [28, 13] (fun i pv wr => ∃ (t : Nat) (s : S) (P : List Int) (H : List Bool), t ≤ refs.length ∧ i = .int .i64 (t : Int) ∧ Hid (t = H.length) ∧ Hid (Under R k refs s0 w1 wr co Mem pv s P H)) (fun i _ _ => refs.length - (intOf i).toNat)
  case atStart => exact ⟨0, s0, [], [], Nat.zero_le _, rfl, rfl, by have := U0.out; rwa [Nat.mul_one] at this⟩
  case round =>
    obtain ⟨t, s, P, H, ht, rfl, hH, hU⟩ := hrel
    by_cases hlt : t < refs.length
    · obtain ⟨x, hx⟩ : ∃ x, refs[t]? = some x := ⟨_, List.getElem?_eq_getElem hlt⟩
      obtain ⟨b, o, rfl, d1⟩ := (HR.out.goes hU.out.goes HO.out) t x hx
      obtain ⟨pa, pc, rfl, hpa, hpb, hpl, hpm⟩ := hU.out.pages.at_
      have k0 : (0 : Int) ≤ (t : Int) := by omega
      have k1 : (t : Int) < (refs.length : Int) := by omega
      have HI := hid (index_any wr pa pc P x hpa (by have := hU.out.le; omega))
      have hrx : refs[H.length]? = some x := by rw [← hH.out]; exact hx
      have HX := hid hrx
      have hPk := hU.out.le
      clear hx hpa hpb hrx
      by_cases hm : x ∈ P
      · have hj := List.idxOf_lt_length_of_mem hm
        have hpl2 : place P x = (P.idxOf x : Int) := by unfold place; rw [if_pos hm]
        rw [hpl2] at HI
        have HM := hid hm
        clear hpl2 hm
        generalize hJ : P.idxOf x = j at *
        have HJ := hid hJ
        clear hJ
        have j0 : decide ((0 : Int) ≤ (j : Int)) = true := by simp
        go_wp2_with fail
        refine (HI.out).mono ?_
        rintro r w2 ⟨rfl, hb2⟩
        have U2 := hU.out.below HD.out hb2
        obtain ⟨m1, m2, m3, m4, m5⟩ := U2.mark HD.out (by rw [← hH.out]; exact hlt)
        have c1 := U2.hits.cell (grow_at (by rw [← hH.out]; exact hlt))
        have c2 := U2.hits.fz H.length
        rw [← hH.out] at m1 m2 m3 m4 m5 c1 c2
        obtain ⟨g, gc, cur, hpv, hgb, _⟩ := m2.open_ (by omega)
        injection hpv with e1 _ e3
        subst e1; subst e3
        have HA := hid (HD.out.asked _ s P g pc j m1 m4 m2 hj hPk)
        have G0 := hid m4
        have B0 := hid m3
        have S0 := hid m5
        have HU2 := hid U2
        clear m1 m2 m3 m4 m5 U2 hpl hpm hgb hb2
        go_wp2_with fail
        refine (HA.out).mono ?_
        rintro r w3 ⟨rfl, q1, q2, q3⟩
        have N1 : Hid (Under R k refs s0 w1 w3 co Mem (.slice (some ⟨g, 0, none⟩) P.length pc) (R.asked s P j).1 (R.asked s P j).2 (H ++ [true])) := by
          have hgb := (q2.lt g rfl).1
          have e := hU.out.next HX.out (q := R.asked s P j) (w1 := w3) (pv' := .slice (some ⟨g, 0, none⟩) P.length pc) (by unfold Pl.Rule.step; rw [if_pos HM.out]; simp only; rw [HJ.out]) (by rw [asked_len HD.out q2]; exact hPk) q1 q2
            (by rw [decide_eq_true HM.out]; have := keep_bools HD.out B0.out hgb q3; simpa [hH.out] using this) (goes_step G0.out q3 (by omega)) (Nat.le_trans S0.out q3.size)
          rwa [decide_eq_true HM.out] at e
        clear q1 q2 q3 HA B0 S0 HU2 c1 c2
        go_wp2_with fail
        go_roundw
        case rel => exact ⟨t + 1, _, _, H ++ [true], by omega, by go_num, by show _ = _; rw [List.length_append, ← hH.out]; rfl, N1⟩
        case measure => simp [intOf]; omega
      · have hpl2 : place P x = -1 := by unfold place; rw [if_neg hm]
        rw [hpl2] at HI
        have HM := hid hm
        clear hpl2 hm
        by_cases hl : P.length < k
        · have j1 : decide ((P.length : Int) < (k : Int)) = true := by simp; omega
          have j2 : (P.length : Int) < (k : Int) := by omega
          go_wp2_with fail
          refine (HI.out).mono ?_
          rintro r w2 ⟨rfl, hb2⟩
          have HU2 := hid (hU.out.below HD.out hb2)
          have hown : w2.ownsRow (w1.heap.size + 1) 3 1 (.slice pa P.length pc) P.length (P.map (Value.int .i64)) := HU2.out.pages
          have hs2 := HU2.out.size
          clear hb2 hpl hpm
          go_wp2_with (at_builtin; refine wpList_append_own _ rfl _ _ 55 rfl (w1.heap.size + 1) 3 i3 (.int .i64 0) 1 8 Try.underlying55 hi hz0 hz1 hz2 rfl (by decide) _ _ _ rfl (hown.alloc _) ⟨w2.heap.size, 0, none⟩ 1 1 [.int .i64 x] rfl rfl ?c1 ?c2 ?c3 ?c4 ?c5 ?_)
          case c1 => exact cell_one_new _ _ _
          case c2 => exact ints_oneCell .i64 [x]
          case c3 => unfold maxLen; omega
          case c4 => omega
          case c5 => simp; omega
          intro v' w4 hown' hgrow hnil
          obtain ⟨m1, m2, m3, m4⟩ := HU2.out.added HD.out _ hgrow
          have O4 : OwnInts w4 (w1.heap.size + 1) v' (P ++ [x]) := OwnR.grows hown'
          clear hown' hgrow hnil hown hs2
          obtain ⟨P2, hP2⟩ : ∃ P2, P2 = P ++ [x] := ⟨_, rfl⟩
          rw [← hP2] at O4
          have hPl : P2.length = P.length + 1 := by rw [hP2]; simp
          obtain ⟨g, gc, cur, rfl, _, _, _⟩ := O4.open_ (by omega)
          have HA := hid (HD.out.asked w4 s P2 g gc P.length m1 m3 O4 (by omega) (by omega))
          have G0 := hid m3
          have B0 := hid m2
          have S0 := hid m4
          have HP2 := hid hP2
          have HPl := hid hPl
          clear m1 m2 m3 m4 O4 hP2 hPl
          go_wp2_with fail
          refine (HA.out).mono ?_
          rintro r w5 ⟨rfl, q1, q2, q3⟩
          have N1 : Hid (Under R k refs s0 w1 w5 co Mem (.slice (some ⟨g, 0, none⟩) P2.length gc) (R.asked s P2 P.length).1 (R.asked s P2 P.length).2 (H ++ [false])) := by
            have hgb := (q2.lt g rfl).1
            have e := hU.out.next HX.out (q := R.asked s P2 P.length) (w1 := w5) (pv' := .slice (some ⟨g, 0, none⟩) P2.length gc) (by unfold Pl.Rule.step; rw [if_neg HM.out]; simp only; rw [if_pos hl, HP2.out]) (by rw [asked_len HD.out q2, HPl.out]; exact hl) q1 q2
              (by rw [decide_eq_false HM.out, grow_false (by rw [← hH.out]; exact hlt)]; exact keep_bools HD.out B0.out hgb q3) (goes_step G0.out q3 (by omega)) (Nat.le_trans S0.out q3.size)
            rwa [decide_eq_false HM.out] at e
          clear q1 q2 q3 HA B0 S0 HU2
          go_wp2_with fail
          go_roundw
          case rel => exact ⟨t + 1, _, _, H ++ [false], by omega, by go_num, by show _ = _; rw [List.length_append, ← hH.out]; rfl, N1⟩
          case measure => simp [intOf]; omega
        · have HPe : Hid (P.length = k) := (by omega : P.length = k)
          have j1 : decide ((P.length : Int) < (k : Int)) = false := by simp; omega
          have j2 : ¬ (P.length : Int) < (k : Int) := by omega
          have hP0 : (0 : Int) ≤ (P.length : Int) := by omega
          obtain ⟨g, gc, cur, hpv, _⟩ := hU.out.pages.open_ (by omega)
          injection hpv with e1 _ e3
          subst e1; subst e3
          go_wp2_with fail
          refine (HI.out).mono ?_
          rintro r w2 ⟨rfl, hb2⟩
          have HU2 := hid (hU.out.below HD.out hb2)
          have HG := hid (HD.out.goes w2 s P g pc t HU2.out.mem HU2.out.goes HU2.out.pages HPe.out hlt)
          clear hb2 hpl hpm
          go_wp2_with fail
          refine (HG.out).mono ?_
          rintro r w3 ⟨rfl, q1, q2, q3, q4⟩
          obtain ⟨z, hz⟩ : ∃ z, z = R.goes s P (refs.drop (t + 1)) := ⟨_, rfl⟩
          rw [← hz] at q1 q2 q4
          have HZ := hid hz
          rw [← hz]
          clear hz HG
          obtain ⟨s1, Q, j⟩ := z
          simp only at q1 q2 q4 ⊢
          obtain ⟨m1, m2, m3, m4, m5⟩ := HU2.out.gone HD.out (j := j) x q1 q2 q3
          have hlen : (Q.set j x).length = P.length := by rw [List.length_set]; exact asked_len HD.out q2
          have hql : Q.length = P.length := asked_len HD.out q2
          obtain ⟨y, hy⟩ : ∃ y, Q[j]? = some y := ⟨_, List.getElem?_eq_getElem (by omega)⟩
          have c1 := q2.cell hy
          clear hy
          have c2 := q2.fz j
          have HA := hid (HD.out.asked _ s1 (Q.set j x) g pc j m1 m4 (by rw [hlen]; exact m2) (by omega) (by omega))
          rw [hlen] at HA
          have G0 := hid m4
          have B0 := hid m3
          have S0 := hid m5
          have HL := hid hlen
          have x0 : (0 : Int) ≤ (j : Int) := by omega
          have x1 : (j : Int) < (P.length : Int) := by omega
          clear m1 m2 m3 m4 m5 q1 q2 q3 hlen hql
          go_wp2_with fail
          refine (HA.out).mono ?_
          rintro r w5 ⟨rfl, q1, q2, q3⟩
          have N1 : Hid (Under R k refs s0 w1 w5 co Mem (.slice (some ⟨g, 0, none⟩) P.length pc) (R.asked s1 (Q.set j x) j).1 (R.asked s1 (Q.set j x) j).2 (H ++ [false])) := by
            have hgb := (q2.lt g rfl).1
            have e := hU.out.next HX.out (q := R.asked s1 (Q.set j x) j) (w1 := w5) (pv' := .slice (some ⟨g, 0, none⟩) P.length pc) (by unfold Pl.Rule.step; rw [if_neg HM.out]; simp only; rw [if_neg (by omega), ← hH.out, ← HZ.out]) (by rw [asked_len HD.out q2]; exact hPk) q1 q2
              (by rw [decide_eq_false HM.out, grow_false (by rw [← hH.out]; exact hlt)]; exact keep_bools HD.out B0.out hgb q3) (goes_step G0.out q3 (by omega)) (Nat.le_trans S0.out q3.size)
            rwa [decide_eq_false HM.out] at e
          clear q1 q2 q3 HA B0 S0 HU2 c1 c2
          go_wp2_with fail
          go_roundw
          case rel => exact ⟨t + 1, _, _, H ++ [false], by omega, by go_num, by show _ = _; rw [List.length_append, ← hH.out]; rfl, N1⟩
          case measure => simp [intOf]; omega
    · obtain rfl : t = refs.length := by omega
      have j3 : decide ((refs.length : Int) < (refs.length : Int)) = false := by simp
      obtain ⟨pa, pc, rfl, _⟩ := hU.out.pages.at_
      go_wp2_with fail
      go_ret3
      have hr := hU.out.run
      rw [← hH.out, List.drop_length] at hr
      simp only [Pl.Rule.run, Pl.go, List.append_nil] at hr
      have hh := hU.out.hits
      rw [grow_all hH.out.symm] at hh
      refine ⟨_, rfl, ?_, ?_, hU.out.goes⟩
      · unfold Pl.Rule.run; rw [hr]; exact hh
      · unfold Pl.Rule.run; rw [hr]; exact hU.out.pages

theorem keep_bad (size : Int) (w : World) (a : Option Addr) (n c : Nat) (fv gv : Value) (hb : chk size n ≠ 0) :
    Calls Try.prog 109 #[.int .i64 size, .slice a n c, fv, gv] w fun e w' => e = .returned (.tuple #[.slice none 0 0, .slice none 0 0, .int .i64 (chk size n)]) ∧ w' = w := by
  have HC := hid (check_any w size a n c)
  obtain ⟨Y, hY⟩ : ∃ Y, Y = chk size n := ⟨_, rfl⟩
  rw [← hY] at HC hb ⊢
  have j1 : (Y != 0) = true := by simpa using hb
  clear hY hb
  go_enter Try.func109, Try.ntmps109
  go_wp2_with fail
  refine (HC.out).mono ?_
  rintro r w1 ⟨rfl, rfl⟩
  go_wp2_with fail
  go_ret3
  exact ⟨rfl, rfl⟩

end Go.Proofs.Ytlcpioeobnjcdaa.PPool
