/- The reference's clock in memory: frames behind pointers; slices.IndexFunc with the clock's own function, walked. Conditions: lengths that an int holds. -/
import Derived.Test.YtlcpioeobnjcdaaPoolClock
namespace Go.Proofs.Ytlcpioeobnjcdaa.PPool
open Go Go.RowKit
set_option maxRecDepth 100000

/-- A frame in its box. -/
def FBox (w : World) (b : Nat) (x : Int) (m : Bool) : Prop := w.heap[b]? = some (.cells #[.int .i64 x, .bool m] 151 (0, 0))
theorem FBox.c0 {w : World} {b : Nat} {x : Int} {m : Bool} (h : FBox w b x m) : w.cell? ⟨b, 0, none⟩ = some (.int .i64 x) := by rw [cell_of_row w b _ _ _ _ h]; rfl
theorem FBox.c1 {w : World} {b : Nat} {x : Int} {m : Bool} (h : FBox w b x m) : w.cell? ⟨b, 1, none⟩ = some (.bool m) := by rw [cell_of_row w b _ _ _ _ h]; rfl
theorem FBox.fz {w : World} {b : Nat} {x : Int} {m : Bool} (h : FBox w b x m) (j : Nat) : w.frozen? ⟨b, j, none⟩ = false := by unfold FBox at h; simp [World.frozen?, h]
theorem FBox.keep {w w' : World} {b : Nat} {x : Int} {m : Bool} (h : FBox w b x m) (e : w'.heap[b]? = w.heap[b]?) : FBox w' b x m := e.trans h
theorem FBox.mark {w : World} {b : Nat} {x : Int} {m : Bool} (h : FBox w b x m) (y : Bool) : FBox (w.setCell ⟨b, 1, none⟩ (.bool y)) b x y := by
  unfold FBox at h ⊢
  rw [setCell_eq_setRow w b 1 _ _ _ _ h]; exact setRow_heap w b _ _ _ _ h
theorem FBox.page {w : World} {b : Nat} {x : Int} {m : Bool} (h : FBox w b x m) (y : Int) : FBox (w.setCell ⟨b, 0, none⟩ (.int .i64 y)) b y m := by
  unfold FBox at h ⊢
  rw [setCell_eq_setRow w b 0 _ _ _ _ h]; exact setRow_heap w b _ _ _ _ h
theorem FBox.lt {w : World} {b : Nat} {x : Int} {m : Bool} (h : FBox w b x m) : b < w.heap.size := lt_of_heap h

def ptrV (b : Nat) : Value := .pointer (some ⟨b, 0, none⟩)
/-- Frames of a clock: blocks bs, pages P, marks m. -/
structure Frames (w : World) (bs : List Nat) (P : List Int) (m : List Bool) : Prop where
  len : bs.length = P.length
  box : ∀ (j b : Nat) (x : Int), bs[j]? = some b → P[j]? = some x → ∃ y, m[j]? = some y ∧ FBox w b x y
  nodup : bs.Nodup
theorem Frames.at_ {w : World} {bs : List Nat} {P : List Int} {m : List Bool} (h : Frames w bs P m) {j : Nat} (hj : j < P.length) : ∃ b x y, bs[j]? = some b ∧ P[j]? = some x ∧ m[j]? = some y ∧ FBox w b x y := by
  have hb : j < bs.length := by rw [h.len]; exact hj
  obtain ⟨y, h1, h2⟩ := h.box j _ _ (List.getElem?_eq_getElem hb) (List.getElem?_eq_getElem hj)
  exact ⟨_, _, y, List.getElem?_eq_getElem hb, List.getElem?_eq_getElem hj, h1, h2⟩
theorem Frames.keep {w w' : World} {bs : List Nat} {P : List Int} {m : List Bool} (h : Frames w bs P m) (e : ∀ b ∈ bs, w'.heap[b]? = w.heap[b]?) : Frames w' bs P m :=
  ⟨h.len, fun j b x hb hx => by obtain ⟨y, h1, h2⟩ := h.box j b x hb hx; exact ⟨y, h1, h2.keep (e b (List.mem_of_getElem? hb))⟩, h.nodup⟩
theorem Frames.lt {w : World} {bs : List Nat} {P : List Int} {m : List Bool} (h : Frames w bs P m) : ∀ b ∈ bs, b < w.heap.size := fun b hb => by
  obtain ⟨j, hj, e⟩ := List.mem_iff_getElem.1 hb
  obtain ⟨b', x, y, h1, _, _, h4⟩ := h.at_ (by rw [← h.len]; exact hj)
  rw [List.getElem?_eq_getElem hj, e] at h1
  cases h1
  exact h4.lt
theorem Frames.below {w w' : World} {bs : List Nat} {P : List Int} {m : List Bool} (h : Frames w bs P m) (hb : Below w.heap.size w w') : Frames w' bs P m := h.keep fun b hm => hb.block b (h.lt b hm)
theorem nodup_at {bs : List Nat} (h : bs.Nodup) {i j : Nat} {b : Nat} (h1 : bs[i]? = some b) (h2 : bs[j]? = some b) : i = j := by
  obtain ⟨g1, g2⟩ := List.getElem?_eq_some_iff.1 h1
  obtain ⟨g3, g4⟩ := List.getElem?_eq_some_iff.1 h2
  rcases Nat.lt_trichotomy i j with hlt | he | hlt
  · exact absurd (g2.trans g4.symm) ((List.pairwise_iff_getElem.1 h) i j g1 g3 hlt)
  · exact he
  · exact absurd (g4.trans g2.symm) ((List.pairwise_iff_getElem.1 h) j i g3 g1 hlt)
/-- One frame is turned. -/
theorem Frames.turn {w w' : World} {bs : List Nat} {P : List Int} {m : List Bool} (h : Frames w bs P m) {k b : Nat} (hb : bs[k]? = some b) (hk : k < m.length) (x' : Int) (y' : Bool) (hbox : FBox w' b x' y') (he : ∀ q, q ≠ b → w'.heap[q]? = w.heap[q]?) : Frames w' bs (P.set k x') (m.set k y') := by
  refine ⟨by rw [List.length_set]; exact h.len, fun j q x hq hx => ?_, h.nodup⟩
  by_cases e : j = k
  · subst e
    rw [hb] at hq
    cases hq
    have hp : j < P.length := by
      have := (List.getElem?_eq_some_iff.1 hb).1
      rw [h.len] at this
      exact this
    rw [List.getElem?_set_self hp] at hx
    cases hx
    exact ⟨y', List.getElem?_set_self hk, hbox⟩
  · rw [List.getElem?_set_ne (fun e2 => e e2.symm)] at hx
    obtain ⟨y, h1, h2⟩ := h.box j q x hq hx
    refine ⟨y, by rw [List.getElem?_set_ne (fun e2 => e e2.symm)]; exact h1, h2.keep (he q fun e2 => ?_)⟩
    subst e2
    exact e (nodup_at h.nodup hq hb)
/-- One frame more. -/
theorem Frames.more {w w' : World} {bs : List Nat} {P : List Int} {m : List Bool} (h : Frames w bs P m) (he : ∀ q, q < w.heap.size → q ∈ bs → w'.heap[q]? = w.heap[q]?) {b : Nat} (hb : w.heap.size ≤ b) {r : Int} (hbox : FBox w' b r true) (hm : P.length < m.length) : Frames w' (bs ++ [b]) (P ++ [r]) (m.set P.length true) := by
  refine ⟨by rw [List.length_append, List.length_append, h.len]; rfl, fun j q x hq hx => ?_, ?_⟩
  · by_cases e : j < P.length
    · have e2 : j < bs.length := by rw [h.len]; exact e
      rw [List.getElem?_append_left e2] at hq
      rw [List.getElem?_append_left e] at hx
      obtain ⟨y, h1, h2⟩ := h.box j q x hq hx
      refine ⟨y, by rw [List.getElem?_set_ne (by omega)]; exact h1, h2.keep (he q h2.lt (List.mem_of_getElem? hq))⟩
    · have hl := (List.getElem?_eq_some_iff.1 hx).1
      have : j = P.length := by simp at hl; omega
      subst this
      rw [List.getElem?_append_right (by rw [h.len]; exact Nat.le_refl _), h.len, Nat.sub_self] at hq
      rw [List.getElem?_append_right (Nat.le_refl _), Nat.sub_self] at hx
      simp at hq hx
      subst hq; subst hx
      exact ⟨true, List.getElem?_set_self hm, hbox⟩
  · rw [List.nodup_append]
    refine ⟨h.nodup, List.nodup_cons.2 ⟨by simp, List.nodup_nil⟩, fun p hp q hq e => ?_⟩
    simp at hq
    subst hq; subst e
    have := h.lt p hp
    omega

set_option maxHeartbeats 400000 in
theorem isRef_any (w : World) (b rb : Nat) (x r : Int) (m : Bool) (h : FBox w b x m) (hr : w.cell? ⟨rb, 0, none⟩ = some (.int .i64 r)) :
    Calls Try.prog 118 #[.pointer (some ⟨b, 0, none⟩), .pointer (some ⟨rb, 0, none⟩)] w fun e w' => e = .returned (.bool (x == r)) ∧ Below w.heap.size w w' := by
  have c0 := h.c0
  clear h
  go_enter Try.func118, Try.ntmps118
  go_wp2_with fail
  go_quiet (fail)
  go_wp2_with fail
  go_ret
  exact ⟨rfl, below_drewN (Below.refl _ _) _⟩

set_option maxHeartbeats 400000 in
theorem idxF_any (w : World) (a : Option Addr) (c : Nat) (bs : List Nat) (P : List Int) (m : List Bool) (rb : Nat) (r : Int) (h : RowAt ptrV w a bs) (hF : Frames w bs P m) (hr : w.cell? ⟨rb, 0, none⟩ = some (.int .i64 r)) (hn : P.length ≤ 50) :
    Calls Try.prog 117 #[.slice a bs.length c, .func (.func 118) #[] #[.pointer (some ⟨rb, 0, none⟩)]] w fun e w' => e = .returned (.int .i64 (place P r)) ∧ Below w.heap.size w w' := by
  have H := hid h
  have HF := hid hF
  have hbl : bs.length ≤ 50 := by rw [hF.len]; exact hn
  have HR := hid hr
  obtain ⟨Y, hY⟩ : ∃ Y, Y = place P r := ⟨_, rfl⟩
  rw [← hY]
  have HY := hid hY
  clear h hY hF hr
  go_enter Try.func117, Try.ntmps117
  go_wp2_with fail
  go_loopw [8] (fun i wr => ∃ k : Nat, k ≤ bs.length ∧ i = .int .i64 (k : Int) ∧ Hid (∀ j, j < k → P[j]? ≠ some r) ∧ Hid (Below w.heap.size w wr)) (fun i _ => bs.length - (intOf i).toNat)
  case atStart => exact ⟨0, Nat.zero_le _, rfl, fun j hj => by omega, Below.refl _ _⟩
  case round =>
    obtain ⟨k, hk, rfl, hO, hb⟩ := hrel
    by_cases hlt : k < bs.length
    · obtain ⟨q, x, y, e1, e2, e3, e4⟩ := (HF.out.below hb.out).at_ (j := k) (by rw [← HF.out.len]; exact hlt)
      obtain ⟨b, o, rfl, d1⟩ := (H.out.below hb.out) k q e1
      have d2 : wr.cell? ⟨b, o + k, none⟩ = some (.pointer (some ⟨q, 0, none⟩)) := d1
      have k0 : (0 : Int) ≤ (k : Int) := by omega
      have k1 : (k : Int) < (bs.length : Int) := by omega
      have KF := hid (isRef_any wr q rb x r y e4 ((hb.out.cell (p := ⟨rb, 0, none⟩) (World.block_lt_of_cell? w _ HR.out)).trans HR.out))
      by_cases e : x = r
      · subst e
        have HK : Hid (Y = (k : Int)) := by
          show _ = _
          rw [HY.out]
          unfold place
          rw [if_pos (List.mem_of_getElem? e2), idx_first e2 hO.out]
        have j1 : (x == x) = true := by simp
        rw [j1] at KF
        clear hO HY e1 e2 e3 e4 d1 j1
        go_wp2_with fail
        refine (KF.out).mono ?_
        rintro rr w3 ⟨rfl, hb3⟩
        have B3 := hid (below_tr hb.out hb3)
        clear hb3
        go_wp2_with fail
        go_ret
        exact ⟨by rw [HK.out]; rfl, B3.out⟩
      · have j1 : (x == r) = false := by simpa using e
        rw [j1] at KF
        have NO : Hid (∀ j, j < k + 1 → P[j]? ≠ some r) := fun j hj hx => by
          by_cases e5 : j = k
          · subst e5; rw [e2] at hx; exact e (Option.some.inj hx)
          · exact hO.out j (by omega) hx
        clear hO e1 e2 e3 e4 d1 j1
        go_wp2_with fail
        refine (KF.out).mono ?_
        rintro rr w3 ⟨rfl, hb3⟩
        have B3 := hid (below_tr hb.out hb3)
        clear hb3
        go_wp2_with fail
        go_roundw
        case rel => exact ⟨k + 1, by omega, by go_num, NO, B3⟩
        case measure => simp [intOf]; omega
    · obtain rfl : k = bs.length := by omega
      have j3 : decide ((bs.length : Int) < (bs.length : Int)) = false := by simp
      have HK : Hid (Y = -1) := by
        show _ = _
        rw [HY.out]
        unfold place
        rw [if_neg]
        intro hm
        obtain ⟨j, hj, e⟩ := List.mem_iff_getElem.1 hm
        exact hO.out j (by rw [HF.out.len]; exact hj) (by rw [List.getElem?_eq_getElem hj, e])
      clear hO HY
      go_wp2_with fail
      go_ret
      exact ⟨by rw [HK.out]; rfl, hb.out⟩

end Go.Proofs.Ytlcpioeobnjcdaa.PPool
