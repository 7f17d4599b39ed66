/- What Clock hands to keep, and Clock, walked. Conditions: lengths that an int holds. -/
import Derived.Test.YtlcpioeobnjcdaaPoolRules
namespace Go.Proofs.Ytlcpioeobnjcdaa.PPool
open Go Go.RowKit
set_option maxRecDepth 100000

/-- Marks and the hand in their boxes. -/
structure ClockAt (mb hb k : Nat) (W : World) (s : List Bool × Nat) : Prop where
  marks : ∃ T, W.heap[mb]? = some (.cells (s.1.map Value.bool).toArray T (0, 0))
  hand : ∃ T, W.heap[hb]? = some (.cells #[.int .i64 (s.2 : Int)] T (0, 0))
  len : s.1.length = 50
  lt : s.2 < k
  ne : mb ≠ hb
theorem ClockAt.mcell {mb hb k : Nat} {W : World} {s : List Bool × Nat} (h : ClockAt mb hb k W s) {j : Nat} {x : Bool} (hx : s.1[j]? = some x) : W.cell? ⟨mb, j, none⟩ = some (.bool x) := by
  obtain ⟨T, h1⟩ := h.marks
  rw [cell_of_row W mb _ _ _ _ h1]
  simp [hx]
theorem ClockAt.mfz {mb hb k : Nat} {W : World} {s : List Bool × Nat} (h : ClockAt mb hb k W s) (j : Nat) : W.frozen? ⟨mb, j, none⟩ = false := by
  obtain ⟨T, h1⟩ := h.marks
  simp [World.frozen?, h1]
theorem ClockAt.hcell {mb hb k : Nat} {W : World} {s : List Bool × Nat} (h : ClockAt mb hb k W s) : W.cell? ⟨hb, 0, none⟩ = some (.int .i64 (s.2 : Int)) := by
  obtain ⟨T, h1⟩ := h.hand
  rw [cell_of_row W hb _ _ _ _ h1]
  rfl
theorem ClockAt.hfz {mb hb k : Nat} {W : World} {s : List Bool × Nat} (h : ClockAt mb hb k W s) : W.frozen? ⟨hb, 0, none⟩ = false := by
  obtain ⟨T, h1⟩ := h.hand
  simp [World.frozen?, h1]
theorem ClockAt.keep {mb hb k : Nat} {W W' : World} {s : List Bool × Nat} (h : ClockAt mb hb k W s) (h1 : W'.heap[mb]? = W.heap[mb]?) (h2 : W'.heap[hb]? = W.heap[hb]?) : ClockAt mb hb k W' s := by
  obtain ⟨⟨T, g1⟩, ⟨T', g2⟩, g3, g4, g5⟩ := h
  exact ⟨⟨T, h1.trans g1⟩, ⟨T', h2.trans g2⟩, g3, g4, g5⟩
theorem ClockAt.setm {mb hb k : Nat} {W : World} {m : List Bool} {hd : Nat} (h : ClockAt mb hb k W (m, hd)) (j : Nat) (x : Bool) : ClockAt mb hb k (W.setCell ⟨mb, j, none⟩ (.bool x)) (m.set j x, hd) := by
  obtain ⟨⟨T, g1⟩, ⟨T', g2⟩, g3, g4, g5⟩ := h
  refine ⟨⟨T, ?_⟩, ⟨T', (Below.heap_setCell _ _ _ _ (fun e => g5 (by have e : hb = mb := e; exact e.symm))).trans g2⟩, by simpa using g3, g4, g5⟩
  rw [setCell_eq_setRow W mb j _ _ _ _ g1]
  have := setRow_heap W mb _ ((m.map Value.bool).toArray.setIfInBounds j (.bool x)) T _ g1
  rw [this]
  simp [List.map_set]
theorem ClockAt.seth {mb hb k : Nat} {W : World} {m : List Bool} {hd : Nat} (h : ClockAt mb hb k W (m, hd)) (j : Nat) (hj : j < k) : ClockAt mb hb k (W.setCell ⟨hb, 0, none⟩ (.int .i64 (j : Int))) (m, j) := by
  obtain ⟨⟨T, g1⟩, ⟨T', g2⟩, g3, g4, g5⟩ := h
  refine ⟨⟨T, (Below.heap_setCell _ _ _ _ (fun e => g5 e)).trans g1⟩, ⟨T', ?_⟩, g3, hj, g5⟩
  rw [setCell_eq_setRow W hb 0 _ _ _ _ g2]
  exact setRow_heap W hb _ _ T' _ g2
/-- How many marks there are, read off memory. -/
def marked (W : World) (mb : Nat) : Nat := match W.heap[mb]? with | some (.cells cs _ _) => cs.toList.countP (fun v => match v with | .bool true => true | _ => false) | _ => 0
theorem ClockAt.marked {mb hb k : Nat} {W : World} {m : List Bool} {hd : Nat} (h : ClockAt mb hb k W (m, hd)) : marked W mb = m.countP id := by
  obtain ⟨T, g1⟩ := h.marks
  unfold Go.Proofs.Ytlcpioeobnjcdaa.PPool.marked
  rw [g1]
  show (m.map Value.bool).countP _ = _
  rw [List.countP_map]
  congr 1
  funext b
  cases b <;> rfl

set_option maxHeartbeats 400000 in
theorem mark_any (W : World) (mb hb k : Nat) (m : List Bool) (hd : Nat) (h : ClockAt mb hb k W (m, hd)) (v : Value) (j : Nat) (hj : j < 50) :
    Calls Try.prog 115 #[v, .int .i64 (j : Int), .pointer (some ⟨mb, 0, none⟩)] W fun e W' => e = .returned (.tuple #[]) ∧ W' = W.setCell ⟨mb, j, none⟩ (.bool true) := by
  obtain ⟨x, hx⟩ : ∃ x, m[j]? = some x := ⟨_, List.getElem?_eq_getElem (by have := h.len; simp only at this; omega)⟩
  have c1 := h.mcell hx
  have c2 := h.mfz j
  have j0 : (0 : Int) ≤ (j : Int) := by omega
  have j1 : (j : Int) < 50 := by omega
  clear h hx
  go_enter Try.func115, Try.ntmps115
  go_wp2_with fail
  go_end0
  exact ⟨rfl, rfl⟩

theorem tmod_nat (h n : Nat) : ((h : Int) + 1).tmod (n : Int) = (((h + 1) % n : Nat) : Int) := by
  rw [← Int.natCast_one, ← Int.natCast_add, ← Int.ofNat_tmod]

set_option maxHeartbeats 400000 in
theorem sweep_any (W : World) (mb hb : Nat) (m : List Bool) (hd : Nat) (a : Option Addr) (n c : Nat) (u : Value) (h : ClockAt mb hb n W (m, hd)) (hn : n ≤ 50) :
    Calls Try.prog 116 #[.slice a n c, u, .pointer (some ⟨mb, 0, none⟩), .pointer (some ⟨hb, 0, none⟩)] W fun e W' => e = .returned (.int .i64 ((Pl.swept n m hd).2 : Int)) ∧ ClockAt mb hb n W' ((Pl.swept n m hd).1, ((Pl.swept n m hd).2 + 1) % n) ∧ Goes (fun b => b = mb ∨ b = hb) W W' (fun b => b = mb ∨ b = hb) := by
  have hn0 : 0 < n := by have := h.lt; simp only at this; omega
  have H := hid h
  clear h
  obtain ⟨Y, hY⟩ : ∃ Y, Y = Pl.swept n m hd := ⟨_, rfl⟩
  rw [← hY]
  have HY := hid hY
  clear hY
  go_enter Try.func116, Try.ntmps116
  go_wp2_with fail
  go_loopw [8] (fun _ wr => ∃ (m' : List Bool) (h' : Nat), Hid (ClockAt mb hb n wr (m', h')) ∧ Hid (Y = Pl.swept n m' h') ∧ Hid (Goes (fun b => b = mb ∨ b = hb) W wr (fun b => b = mb ∨ b = hb))) (fun _ wr => marked wr mb)
  case atStart => exact ⟨m, hd, H.out, HY.out, Goes.refl _ _⟩
  case round =>
    obtain ⟨m', h', hC, hS, hG⟩ := hrel
    have hlt : h' < n := hC.out.lt
    obtain ⟨x, hx⟩ : ∃ x, m'[h']? = some x := ⟨_, List.getElem?_eq_getElem (by have := hC.out.len; simp only at this; omega)⟩
    have c1 := hC.out.mcell hx
    have c2 := hC.out.mfz h'
    have c3 := hC.out.hcell
    have c4 := hC.out.hfz
    have j0 : (0 : Int) ≤ (h' : Int) := by omega
    have j1 : (h' : Int) < 50 := by omega
    have j2 : (h' : Int) < (n : Int) := by omega
    have j3 : ((n : Int) == 0) = false := by simp; omega
    have j4 : (n : Int) ≠ 0 := by omega
    have j5 := tmod_nat h' n
    have j6 : (((h' + 1) % n : Nat) : Int) = ((h' : Int) + 1) % (n : Int) := by simp
    simp only at c3
    cases x with
    | true =>
      have C1 := hC.out.setm h' false
      have c5 := C1.hcell
      have c6 := C1.hfz
      simp only at c5
      have C2 := hid (C1.seth ((h' + 1) % n) (Nat.mod_lt _ hn0))
      rw [j6] at C2
      have S2 : Hid (Y = Pl.swept n (m'.set h' false) ((h' + 1) % n)) := by show _ = _; rw [hS.out]; exact Pl.swept_on hx
      have M2 : Hid ((m'.set h' false).countP id < m'.countP id) := by have := Pl.count_set hx; show _ < _; omega
      have G2 := hid ((hG.out.setCell (q := ⟨mb, h', none⟩) (.inl (.inl rfl)) (.bool false)).setCell (q := ⟨hb, 0, none⟩) (.inl (.inr rfl)) (.int .i64 (((h' : Int) + 1) % (n : Int))))
      clear hx C1 j6
      go_wp2_with fail
      go_roundw
      case rel => exact ⟨m'.set h' false, (h' + 1) % n, C2, S2, G2⟩
      case measure => rw [C2.out.marked, hC.out.marked]; exact M2.out
    | false =>
      have E2 : Hid (Y = (m', h')) := by show _ = _; rw [hS.out]; exact Pl.swept_end (by rw [hx]; simp)
      have C2 := hid (hC.out.seth ((h' + 1) % n) (Nat.mod_lt _ hn0))
      rw [j6] at C2
      have G2 := hid (hG.out.setCell (q := ⟨hb, 0, none⟩) (.inl (.inr rfl)) (.int .i64 (((h' : Int) + 1) % (n : Int))))
      clear hx j6 HY
      go_wp2_with fail
      go_ret
      exact ⟨by rw [E2.out]; rfl, by rw [E2.out]; exact C2.out, G2.out⟩

theorem clock_does (k : Nat) (hk2 : k ≤ 50) (refs : List Int) (w : World) (mb hb : Nat) (hm : mb < w.heap.size) (hh : hb < w.heap.size) :
    Does Pl.clockR k refs w (fun b => b = mb ∨ b = hb) (ClockAt mb hb k) 115 116 #[.pointer (some ⟨mb, 0, none⟩)] #[.pointer (some ⟨mb, 0, none⟩), .pointer (some ⟨hb, 0, none⟩)] := by
  refine ⟨fun _ _ => rfl, fun _ _ => rfl, fun b h => by rcases h with h | h <;> omega, fun W W' s h e => h.keep (e mb hm) (e hb hh), fun W s P g c j hM _ h hj hP => ?_, fun W s P g c t hM _ h hP _ => ?_⟩
  · refine (mark_any W mb hb k s.1 s.2 hM _ j (by omega)).mono ?_
    rintro e W' ⟨rfl, rfl⟩
    have hg := (h.lt g rfl).1
    refine ⟨rfl, ClockAt.setm (m := s.1) (hd := s.2) hM j true, h.keep (fun b hb' => Below.heap_setCell _ _ _ _ (fun e => ?_)), (Goes.refl _ W).setCell (q := ⟨mb, j, none⟩) (.inl (.inl (.inl rfl))) _⟩
    have e : b = mb := e
    have : g = b := by simpa [Value.ownBlock] using hb'
    omega
  · subst hP
    refine (sweep_any W mb hb s.1 s.2 _ P.length c _ hM (by omega)).mono ?_
    rintro e W' ⟨rfl, q1, q2⟩
    have hg := (h.lt g rfl)
    refine ⟨rfl, q1, h.keep (fun b hb' => q2.block b (h.lt b hb').2 (fun e => ?_)), ⟨q2.os, q2.tape, q2.output, q2.size, fun b hb' hn => q2.block b hb' (fun e => hn (.inl e)), fun _ h => .inl h⟩, Pl.swept_lt (by have := hM.lt; omega) _ _ _ hM.lt⟩
    have : g = b := by simpa [Value.ownBlock] using hb'
    rcases e with e | e <;> omega

theorem clock_start (w : World) (T1 T2 : TypeId) (cs : Array Value) (hcs : cs = ((List.replicate 50 false).map Value.bool).toArray) : ClockAt w.heap.size (w.heap.size + 1) 1 ((w.alloc (.cells cs T1)).alloc (.cells #[.int .i64 0] T2)) (List.replicate 50 false, 0) := by
  subst hcs
  refine ⟨⟨T1, (Below.heap_alloc (w.alloc _) _ _ (by simp)).trans (heap_alloc_new w _)⟩, ⟨T2, ?_⟩, by simp, Nat.one_pos, by omega⟩
  have e := heap_alloc_new (w.alloc (.cells ((List.replicate 50 false).map Value.bool).toArray T1)) (.cells #[.int .i64 0] T2)
  have e2 : (w.alloc (.cells ((List.replicate 50 false).map Value.bool).toArray T1)).heap.size = w.heap.size + 1 := by simp
  rw [e2] at e
  exact e

set_option maxHeartbeats 400000 in
theorem clock_any (w : World) (size : Int) (a : Option Addr) (c : Nat) (refs : List Int) (h : IntsAt w a refs) :
    Calls Try.prog 66 #[.int .i64 size, .slice a refs.length c] w fun e w' => Ans w w' e (chk size refs.length) (out Pl.clockR (List.replicate 50 false, 0) size refs) := by
  have hmf : ∀ (fn : Fn) (first cap : Array Value) (w : World), (Instr.makeFunc fn first cap).run Try.prog w = .ok (.func fn first cap) w := fun _ _ _ _ => rfl
  have HG : Hid (∀ w0, ClockAt w.heap.size (w.heap.size + 1) 1 w0 (List.replicate 50 false, 0) → Below w.heap.size w w0 → w0.heap.size = w.heap.size + 2 →
      Calls Try.prog 109 #[.int .i64 size, .slice a refs.length c, .func (.func 115) #[] #[.pointer (some ⟨w.heap.size, 0, none⟩)], .func (.func 116) #[] #[.pointer (some ⟨w.heap.size, 0, none⟩), .pointer (some ⟨w.heap.size + 1, 0, none⟩)]] w0
        fun e w' => ∃ a1 n1 c1 a2 n2 c2 y, e = .returned (.tuple #[.slice a1 n1 c1, .slice a2 n2 c2, .int .i64 y]) ∧ Ans w w' e (chk size refs.length) (out Pl.clockR (List.replicate 50 false, 0) size refs)) := by
    intro w0 hC hB hS
    by_cases hc : chk size refs.length = 0
    · obtain ⟨h1, h2, h3, h4⟩ := chk_zero hc
      have hC' : ClockAt w.heap.size (w.heap.size + 1) size.toNat w0 (List.replicate 50 false, 0) := ⟨hC.marks, hC.hand, hC.len, h1, hC.ne⟩
      have HK := keep_ok Pl.clockR size.toNat refs w0 _ _ _ _ _ _ (clock_does size.toNat h2 refs w0 w.heap.size (w.heap.size + 1) (by omega) (by omega)) (List.replicate 50 false, 0) hC' a c (h.below hB) (fun hp q hq e => by
        obtain ⟨b, o, e1, e2⟩ := h.lt hp
        rw [e1] at hq
        cases hq
        rcases e with e | e <;> (simp only at e; omega)) h1 h2 h4
      rw [h3] at HK
      refine HK.mono ?_
      rintro r w1 ⟨pv, rfl, q1, q2, q3⟩
      obtain ⟨pa, pc, rfl, _⟩ := id q2.at_
      exact ⟨_, _, _, _, _, _, _, rfl, Ans.good _ _ hc q1 q2 (hB.trans (q3.below (B := w.heap.size) (by omega) (fun k hk => by rcases hk with e | e <;> omega)))⟩
    · refine (keep_bad size w0 a refs.length c _ _ hc).mono ?_
      rintro r w1 ⟨rfl, rfl⟩
      exact ⟨_, _, _, _, _, _, _, rfl, Ans.bad _ _ hc hB⟩
  clear h
  go_enter Try.func66, Try.ntmps66
  go_wp2_with fail
  refine (HG.out _ ?w1 ?w2 ?w3).mono ?_
  case w1 =>
    exact clock_start w _ _ _ rfl
  case w2 => exact below_tr (bx _ _) (bx _ _)
  case w3 => simp
  rintro r w1 ⟨a1, n1, c1, a2, n2, c2, y, rfl, hA⟩
  have HA := hid hA
  clear hA HG
  go_wp2_with fail
  go_ret3
  exact HA.out

end Go.Proofs.Ytlcpioeobnjcdaa.PPool
