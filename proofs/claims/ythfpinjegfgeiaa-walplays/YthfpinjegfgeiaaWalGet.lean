/- A log's record, walked: getRecord. -/
import Derived.Test.YthfpinjegfgeiaaWalPut
namespace Go.Proofs.Ythfpinjegfgeiaa
open Go Go.RowKit
set_option maxRecDepth 100000

def recV : Option Wl.Rec → Value
  | none => .tuple #[.agg #[.string ⟨#[]⟩, .int .i64 0, .int .i64 0], .bool false]
  | some r => .tuple #[.agg #[.string (ba r.text), .int .i64 r.epoch, .int .i64 (r.size : Int)], .bool true]
def lists (l : List ByteArray) : List (List UInt8) := l.map fun s => s.data.toList

set_option maxHeartbeats 2000000 in
theorem getRecord_none (g o c : Nat) (n : Int) (w : World) :
    Calls Try.prog 79 #[.slice (some ⟨g, o, none⟩) 0 c, .int .i64 n] w fun r w' => r = .returned (recV none) ∧ Below w.heap.size w w' := by
  go_enter Try.func79, Try.ntmps79
  go_wp2_with fail
  go_returns
  exact ⟨rfl, (Below.refl _ w).alloc (Nat.le_refl _) _⟩

/-! ### The plain facts -/
theorem getT_at (hv : List UInt8) (m k : Nat) (hm : m ≤ 300) (h : hv.take k = PCode.Nb.natB m) (hk : k = (PCode.Nb.natB m).length) (hl : k + m ≤ hv.length) :
    PCode.Nb.getT (ba (hv.take (k + m))) = (ba ((hv.drop k).take m), k + m, 0) := by
  have e1 : hv.take (k + m) = PCode.Nb.natB m ++ (hv.drop k).take m := by rw [List.take_add, h]
  have e2 : PCode.Nb.getN 0 0 (ba (hv.take (k + m))).data.toList = (m, k, 0) := by rw [ba_list, e1, Wl.getN_put m _ (by omega), hk]
  unfold PCode.Nb.getT
  rw [e2]
  simp only
  have e3 : (ba (hv.take (k + m))).size = k + m := by rw [ba_size, List.length_take]; omega
  rw [if_pos trivial, if_neg (by omega), if_neg (by omega)]
  have e4 : (ba (hv.take (k + m))).extract k (k + m) = ba ((hv.drop k).take m) := by
    apply bytes_eq
    rw [cut_list, ba_list, ba_list, e1, ← h, List.drop_left' (by rw [List.length_take]; omega), Nat.add_sub_cancel_left, List.take_take]
    congr 1
    omega
  rw [e4]
theorem getF_at (hv : List UInt8) (q : Nat) (hq : q ≤ 4096) (hl : q + 4 ≤ hv.length) :
    PFold.getF (ba (hv.take (q + 4))) = if Wl.sumF (hv.take q) = hv.take (q + 4) then (ba (hv.take q), 0) else (⟨#[]⟩, 5) := by
  have e3 : (ba (hv.take (q + 4))).size = q + 4 := by rw [ba_size, List.length_take]; omega
  unfold PFold.getF
  rw [e3, if_neg (by omega), if_neg (by omega), Nat.add_sub_cancel]
  have e4 : (ba (hv.take (q + 4))).extract 0 q = ba (hv.take q) := by rw [ba_take, List.take_take]; congr 2; omega
  have e5 : ((ba (hv.take (q + 4))).extract q (q + 4)).data.toList = (hv.take (q + 4)).drop q := by
    rw [cut_list, ba_list]
    exact List.take_of_length_le (by rw [List.length_drop, List.length_take]; omega)
  rw [e4, e5]
  have e6 : (PFold.sumB (ba (hv.take q))).data.toList = PFold.Fo.four (PFold.Fo.sum (hv.take q)) := by unfold PFold.sumB; rw [ba_list]
  rw [e6]
  have e7 : hv.take (q + 4) = hv.take q ++ (hv.take (q + 4)).drop q := by
    conv => lhs; rw [← List.take_append_drop q (hv.take (q + 4)), List.take_take]
    congr 2
    omega
  have e8 : (PFold.Fo.four (PFold.Fo.sum (hv.take q)) = (hv.take (q + 4)).drop q) ↔ (Wl.sumF (hv.take q) = hv.take (q + 4)) := by
    unfold Wl.sumF
    constructor
    · intro h; rw [h]; exact e7.symm
    · intro h; exact List.append_cancel_left (h.trans e7)
  simp only [e8]

/-- The number that a text's bytes begin with, and what stands there. -/
theorem getN_at {hv : List UInt8} {m k : Nat} (h : PCode.Nb.getN 0 0 hv = (m, k, 0)) : hv.take k = PCode.Nb.natB m ∧ k = (PCode.Nb.natB m).length ∧ k ≤ hv.length := by
  obtain ⟨m', hx, hm, hk, hk2, _⟩ := PCode.Nb.get_only hv 0 0 m k h
  simp at hx hm hk2
  subst hx
  exact ⟨hm.symm, by rw [hm, List.length_take]; omega, hk2⟩

structure RecLoop (l : List (List UInt8)) (h : List UInt8) (need m k : Nat) (G : Option (List UInt8 × Nat)) (hv : List UInt8) (u : Nat) : Prop where
  eq : Wl.gather h need (l.drop u) hv u = G
  le : u ≤ l.length
  small : hv.length ≤ 64 * u
  num : hv.take k = PCode.Nb.natB m
theorem RecLoop.step {l : List (List UInt8)} {h : List UInt8} {need m k : Nat} {G : Option (List UInt8 × Nat)} {hv : List UInt8} {u : Nat} (q : RecLoop l h need m k G hv u) (hk : k = (PCode.Nb.natB m).length) {s : List UInt8} (hs : l[u]? = some s) (h64 : s.length = 64) (hlt : ¬ need ≤ hv.length) :
    (s.take h.length = h → RecLoop l h need m k G (hv ++ s.drop h.length) (u + 1)) ∧ (s.take h.length ≠ h → G = none) := by
  have hu : u < l.length := (List.getElem?_eq_some_iff.1 hs).1
  have e1 : l.drop u = s :: l.drop (u + 1) := by
    rw [List.drop_eq_getElem_cons hu]
    congr 1
    exact (List.getElem?_eq_some_iff.1 hs).2
  have e2 := q.eq
  rw [e1, Wl.gather, if_neg hlt] at e2
  constructor
  · intro hp
    rw [if_pos hp] at e2
    refine ⟨e2, hu, ?_, ?_⟩
    · rw [List.length_append, List.length_drop, h64]
      have := q.small
      omega
    · have e3 := q.num
      have e4 : k ≤ hv.length := by
        have := congrArg List.length e3
        rw [List.length_take] at this
        omega
      rw [List.take_append_of_le_length e4]
      exact e3
  · intro hp
    rw [if_neg hp] at e2
    exact e2.symm
theorem RecLoop.stop {l : List (List UInt8)} {h : List UInt8} {need m k : Nat} {G : Option (List UInt8 × Nat)} {hv : List UInt8} {u : Nat} (q : RecLoop l h need m k G hv u) (hlt : need ≤ hv.length) : G = some (hv, u) := by
  rw [← q.eq, Wl.gather_stop _ _ _ _ _ hlt]
theorem RecLoop.over {l : List (List UInt8)} {h : List UInt8} {need m k : Nat} {G : Option (List UInt8 × Nat)} {hv : List UInt8} (q : RecLoop l h need m k G hv l.length) (hlt : ¬ need ≤ hv.length) : G = none := by
  rw [← q.eq, List.drop_length, Wl.gather, if_neg hlt]

/-! ### The answer, in its cells -/
theorem three_cells {w : World} {b : Nat} {T : TypeId} {x0 x1 x2 : Value} (h : w.heap[b]? = some (.cells #[x0, x1, x2] T (0, 0))) (v0 v1 v2 : Value) :
    (((w.setCell ⟨b, 0, none⟩ v0).setCell ⟨b, 1, none⟩ v1).setCell ⟨b, 2, none⟩ v2).heap[b]? = some (.cells #[v0, v1, v2] T (0, 0)) := by
  have e0 := setCell_eq_setRow w b 0 _ _ _ v0 h
  have h0 : (w.setCell ⟨b, 0, none⟩ v0).heap[b]? = some (.cells #[v0, x1, x2] T (0, 0)) := by rw [e0]; exact setRow_heap w b _ _ _ _ h
  have e1 := setCell_eq_setRow _ b 1 _ _ _ v1 h0
  have h1 : ((w.setCell ⟨b, 0, none⟩ v0).setCell ⟨b, 1, none⟩ v1).heap[b]? = some (.cells #[v0, v1, x2] T (0, 0)) := by rw [e1]; exact setRow_heap _ b _ _ _ _ h0
  have e2 := setCell_eq_setRow _ b 2 _ _ _ v2 h1
  rw [e2]
  exact setRow_heap _ b _ _ _ _ h1
theorem rec_result {W : World} {b : Nat} {T : TypeId} {v0 v1 v2 : Value} (h : W.heap[b]? = some (.cells #[v0, v1, v2] T (0, 0))) (tmps : Array Value) (h4 : tmps.getD 4 undef = .pointer (some ⟨b, 0, none⟩)) :
    (results Try.f79 tmps).run Try.prog W = .ok (.tuple #[.agg #[v0, v1, v2], tmps.getD 5 undef]) W := by
  have k0 : W.cell? ⟨b, 0, none⟩ = some v0 := by rw [cell_of_row W _ _ _ _ _ h]; rfl
  have k1 : W.cell? ⟨b, 1, none⟩ = some v1 := by rw [cell_of_row W _ _ _ _ _ h]; rfl
  have k2 : W.cell? ⟨b, 2, none⟩ = some v2 := by rw [cell_of_row W _ _ _ _ _ h]; rfl
  have h5 : tmps[4]?.getD undef = .pointer (some ⟨b, 0, none⟩) := by simpa using h4
  simp [results, Try.results79, go_sem, h5, k0, k1, k2]
theorem below_three {w w2 : World} (h : Below w.heap.size w w2) {b : Nat} (hb : w.heap.size = b) (v0 v1 v2 : Value) : Below w.heap.size w (((w2.setCell ⟨b, 0, none⟩ v0).setCell ⟨b, 1, none⟩ v1).setCell ⟨b, 2, none⟩ v2) :=
  ((h.setCell (p := ⟨b, 0, none⟩) (by show _ ≤ b; omega) _).setCell (p := ⟨b, 1, none⟩) (by show _ ≤ b; omega) _).setCell (p := ⟨b, 2, none⟩) (by show _ ≤ b; omega) _

/-! ### The walk -/
set_option maxHeartbeats 4000000 in
theorem getRecord_cons (g o c : Nat) (n : Int) (w : World) (s : ByteArray) (l : List ByteArray) (h : TxAt w g o c (s :: l)) (h64 : ∀ x ∈ s :: l, x.size = 64) (hl : (s :: l).length ≤ 256) (hn : Wl.I64 n) :
    Calls Try.prog 79 #[.slice (some ⟨g, o, none⟩) (s :: l).length c, .int .i64 n] w fun r w' => r = .returned (recV (Wl.getRec (lists (s :: l)) n)) ∧ Below w.heap.size w w' := by
  have HC : Hid (∀ W : World, Below w.heap.size w W → ∀ (j : Nat) (x : ByteArray), (s :: l)[j]? = some x → W.cell? ⟨g, o + j, none⟩ = some (.string x)) := fun W hW j x hx => (h.keep (hW.block g h.lt)).cell j x hx
  have hc0 := HC.out w (Below.refl _ _) 0 s rfl
  rw [Nat.add_zero] at hc0
  have hg := h.lt
  have hc1 : ∀ ob, (w.alloc ob).cell? ⟨g, o, none⟩ = some (.string s) := fun ob => by rw [World.cell?_alloc_past _ _ _ hg]; exact hc0
  have hs : s.size = 64 := h64 s (by simp)
  have K1 := hid fun W => getHead_any s W hs
  have HR : Wl.getRec (lists (s :: l)) n = match Wl.getHd s.data.toList with | none => none | some (e, n', k) => if n' = n then Wl.getRec2 e n (s.data.toList.drop k) (lists l) else none := rfl
  have L1 : (0 : Int) < ((s :: l).length : Int) := by simp
  have L0 : (((s :: l).length : Int) == 0) = false := by simp; omega
  have L2 : (s :: l).length ≠ 0 := by simp
  have H64 := hid h64
  have HHd : ∀ e n' k, Wl.getHd s.data.toList = some (e, n', k) → Wl.I64 e ∧ 3 ≤ k ∧ k ≤ 21 := fun e n' k hh => by
    obtain ⟨_, a2, a3, _, a5⟩ := Wl.getHd_some hh
    have := Wl.head_len 1 e n' a2 a3
    exact ⟨a2, by omega, by omega⟩
  have HHd' := hid HHd
  have HL : Hid (lists (s :: l) = s.data.toList :: lists l) := rfl
  have HLl : Hid ((lists (s :: l)).length = (s :: l).length) := by show _ = _; simp [lists]
  have HLx : Hid (∀ (j : Nat) (x : ByteArray), (s :: l)[j]? = some x → (lists (s :: l))[j]? = some x.data.toList) := fun j x hx => by unfold lists; rw [List.getElem?_map, hx]; rfl
  clear HHd h h64 hc0
  generalize hSL : s :: l = SL at *
  generalize hLS : lists SL = LS at *
  clear hSL hLS
  generalize Wl.getRec LS n = R at *
  generalize Wl.getHd s.data.toList = G at *
  cases G with
  | none =>
    obtain rfl : R = none := HR
    go_enter Try.func79, Try.ntmps79
    go_wp2_with fail
    refine (K1.out _).mono ?_
    rintro r w1 ⟨rfl, rfl⟩
    simp only [hdV]
    go_wp2_with fail
    go_returns
    exact ⟨rfl, (Below.refl _ w).alloc (Nat.le_refl _) _⟩
  | some x =>
    obtain ⟨e, n', k⟩ := x
    obtain ⟨he, hk1, hk2⟩ := HHd'.out e n' k rfl
    simp only at HR
    by_cases hnn : n' = n
    · subst hnn
      rw [if_pos rfl] at HR
      have c1 := fun W => PFold.cut_from s (k : Int) (by omega) (by omega) W
      rw [Int.toNat_natCast] at c1
      have hlx : (s.extract k s.size).data.toList = s.data.toList.drop k := from_list s k
      have hsx : (s.extract k s.size).size = 64 - k := by rw [ByteArray.size_extract, hs]; omega
      rw [← hlx] at HR
      generalize s.extract k s.size = x at *
      obtain ⟨m, t, z, hG⟩ : ∃ m t z, PCode.Nb.getN 0 0 x.data.toList = (m, t, z) := ⟨_, _, _, rfl⟩
      have K2 := hid fun W => PCode.getNat_at x W m t z (by unfold maxLen; omega) hG
      have hb := PCode.Nb.get_bound x.data.toList 0 0 (by omega) (by omega)
      rw [hG] at hb
      simp only at hb
      unfold Wl.getRec2 at HR
      rw [hG] at HR
      simp only at HR
      obtain ⟨hb1, -, hb3, hb4⟩ := hb
      by_cases hz : z = 0
      · subst hz
        have hat := getN_at hG
        by_cases hm : m ≤ 300
        · rw [if_pos ⟨rfl, hm⟩] at HR
          have K3 := hid fun W => putHead_any 2 e n' W he hn
          have hd2 := Wl.head_len 2 e n' he hn
          have hdl := ba_size (Wl.headB 2 e n')
          have HH : Hid (ba (Wl.headB 2 e n') = ba (Wl.headB 2 e n')) := rfl
          have HRq := hid HR
          have RL0 : Hid (RecLoop LS (Wl.headB 2 e n') (t + m + 4) m t (Wl.gather (Wl.headB 2 e n') (t + m + 4) (lists l) x.data.toList 1) x.data.toList 1) := ⟨by rw [HL.out]; rfl, by rw [HL.out]; simp, by rw [size_list]; omega, hat.1⟩
          have HT := hid hat.2.1
          generalize Wl.gather (Wl.headB 2 e n') (t + m + 4) (lists l) x.data.toList 1 = GG at *
          have hx : x = ba x.data.toList := (ba_back x).symm
          obtain ⟨x0, hx0⟩ : ∃ x0, x0 = x.data.toList := ⟨_, rfl⟩
          rw [← hx0] at hx RL0
          have hpl : ∀ q : ByteArray, hasPre q (ba (Wl.headB 2 e n')) = decide (q.data.toList.take (Wl.headB 2 e n').length = Wl.headB 2 e n') := fun q => by unfold hasPre; rw [ba_size, ba_list]
          generalize Wl.headB 2 e n' = hd at *
          have hm' : (m : Int) ≤ 300 := by omega
          have ht' : (t : Int) ≤ 10 := by omega
          have HPL := hid hpl
          subst hx
          clear hlx hsx hG hat HR HH hx0 hpl
          go_enter Try.func79, Try.ntmps79
          go_wp2_with fail
          refine (K1.out _).mono ?_
          rintro r w1 ⟨rfl, rfl⟩
          simp only [hdV]
          go_wp2_with fail
          refine (K2.out _).mono ?_
          rintro r w1 ⟨rfl, rfl⟩
          go_wp2_with fail
          refine (K3.out _).mono ?_
          rintro r w2 ⟨rfl, hb2⟩
          have BL : Below w.heap.size w w2 := below_tr ((Below.refl _ w).alloc (Nat.le_refl _) _) hb2
          have hblk : w2.heap[w.heap.size]? = some (.cells #[.string ⟨#[]⟩, .int .i64 0, .int .i64 0] 104 (0, 0)) := (hb2.block w.heap.size (by simp)).trans (heap_alloc_new w _)
          have r0 : w2.cell? ⟨w.heap.size, 0, none⟩ = some (.string ⟨#[]⟩) := by rw [cell_of_row w2 _ _ _ _ _ hblk]; rfl
          have r1 : w2.cell? ⟨w.heap.size, 1, none⟩ = some (.int .i64 0) := by rw [cell_of_row w2 _ _ _ _ _ hblk]; rfl
          have r2 : w2.cell? ⟨w.heap.size, 2, none⟩ = some (.int .i64 0) := by rw [cell_of_row w2 _ _ _ _ _ hblk]; rfl
          have rf : ∀ i, w2.frozen? ⟨w.heap.size, i, none⟩ = false := fun i => by simp [World.frozen?, hblk]
          have rf0 := rf 0
          have rf1 := rf 1
          have rf2 := rf 2
          have HB2 := hid BL
          have hb0 : Hid (w.heap.size ≤ w.heap.size) := Nat.le_refl _
          have HBK := hid hblk
          clear BL K1 K2 K3 hblk rf hb2
          generalize hbq : w.heap.size = bq at r0 r1 r2 rf0 rf1 rf2 hb0 HBK
          have HBQ := hid hbq
          clear hbq
          go_wp2_with fail
          go_loopw [10, 15] (fun hvV uV wr => ∃ (hv : List UInt8) (u : Nat), hvV = .string (ba hv) ∧ uV = .int .i64 (u : Int) ∧ wr = w2 ∧ Hid (RecLoop LS hd (t + m + 4) m t GG hv u)) (fun _ uV _ => 257 - (intOf uV).toNat)
          case atStart => exact ⟨x0, 1, rfl, rfl, rfl, RL0⟩
          case round =>
            clear RL0
            obtain ⟨hv, u, rfl, rfl, rfl, hq⟩ := hrel
            have hule : u ≤ SL.length := by rw [← HLl.out]; exact hq.out.le
            have hsm := hq.out.small
            have hvs := ba_size hv
            by_cases hlt : t + m + 4 ≤ hv.length
            · have hGG := hq.out.stop hlt
              have hlt1 : (t : Int) + (m : Int) + 4 ≤ (hv.length : Int) := by omega
              have hlt2 : decide ((hv.length : Int) < (t : Int) + (m : Int) + 4) = false := by simp; omega
              have hF := getF_at hv (t + m) (by omega) hlt
              have c3 := fun W => PFold.cut_to (ba hv) ((t : Int) + (m : Int) + 4) (by omega) (by omega) W
              rw [show ((t : Int) + (m : Int) + 4).toNat = t + m + 4 from by omega, ba_take] at c3
              have KF := fun W => PFold.get_any (ba (hv.take (t + m + 4))) W (by rw [ba_size, List.length_take]; omega)
              rw [hF] at KF
              have hRR := HRq.out
              rw [hGG, Wl.ends] at hRR
              by_cases hsum : Wl.sumF (hv.take (t + m)) = hv.take (t + m + 4)
              · rw [if_pos hsum] at hRR KF
                subst hRR
                have KT := fun W => PCode.getText_any (ba (hv.take (t + m))) W (by rw [ba_size, List.length_take]; unfold maxLen; omega)
                rw [getT_at hv m t hm hq.out.num HT.out (by omega)] at KT
                have KF' := hid KF
                have KT' := hid KT
                clear KF KT hsum hGG hF
                generalize ba (hv.take (t + m + 4)) = a1 at *
                generalize ba (hv.take (t + m)) = a2 at *
                have HA3 : Hid (ba ((hv.drop t).take m) = ba ((hv.drop t).take m)) := rfl
                generalize hv' : ba hv = v at *
                clear hv'
                go_wp2_with fail
                refine (KF'.out _).mono ?_
                rintro r w4 ⟨rfl, hb4⟩
                go_wp2_with fail
                refine (KT'.out _).mono ?_
                rintro r w5 ⟨rfl, hb5⟩
                have B5 := hid (below_tr hb4 hb5)
                have hlt5 : bq < wr.heap.size := lt_of_heap HBK.out
                have hbk5 : Hid (w5.heap[bq]? = some (.cells #[.string ⟨#[]⟩, .int .i64 0, .int .i64 0] 104 (0, 0))) := (B5.out.block bq hlt5).trans HBK.out
                have r0 : w5.cell? ⟨bq, 0, none⟩ = some (.string ⟨#[]⟩) := by rw [cell_of_row w5 _ _ _ _ _ hbk5.out]; rfl
                have r1 : w5.cell? ⟨bq, 1, none⟩ = some (.int .i64 0) := by rw [cell_of_row w5 _ _ _ _ _ hbk5.out]; rfl
                have r2 : w5.cell? ⟨bq, 2, none⟩ = some (.int .i64 0) := by rw [cell_of_row w5 _ _ _ _ _ hbk5.out]; rfl
                have rf : ∀ i, w5.frozen? ⟨bq, i, none⟩ = false := fun i => by have := hbk5.out; simp [World.frozen?, this]
                have rf0 := rf 0
                have rf1 := rf 1
                have rf2 := rf 2
                clear rf hb4 hb5
                go_wp2_with fail
                refine bodyPost_ret (rec_result (three_cells hbk5.out _ _ _) _ rfl) rfl ?_
                exact ⟨rfl, below_three (HB2.out.trans (B5.out.mono HB2.out.size)) HBQ.out _ _ _⟩
              · rw [if_neg hsum] at hRR KF
                subst hRR
                have KF' := hid KF
                clear KF hsum hGG hF
                generalize ba (hv.take (t + m + 4)) = a1 at *
                generalize hv' : ba hv = v at *
                clear hv'
                go_wp2_with fail
                refine (KF'.out _).mono ?_
                rintro r w4 ⟨rfl, hb4⟩
                have B5 := hid hb4
                have hlt5 : bq < wr.heap.size := lt_of_heap HBK.out
                have hbk5 : Hid (w4.heap[bq]? = some (.cells #[.string ⟨#[]⟩, .int .i64 0, .int .i64 0] 104 (0, 0))) := (B5.out.block bq hlt5).trans HBK.out
                have r0 : w4.cell? ⟨bq, 0, none⟩ = some (.string ⟨#[]⟩) := by rw [cell_of_row w4 _ _ _ _ _ hbk5.out]; rfl
                have r1 : w4.cell? ⟨bq, 1, none⟩ = some (.int .i64 0) := by rw [cell_of_row w4 _ _ _ _ _ hbk5.out]; rfl
                have r2 : w4.cell? ⟨bq, 2, none⟩ = some (.int .i64 0) := by rw [cell_of_row w4 _ _ _ _ _ hbk5.out]; rfl
                have rf : ∀ i, w4.frozen? ⟨bq, i, none⟩ = false := fun i => by have := hbk5.out; simp [World.frozen?, this]
                have rf0 := rf 0
                have rf1 := rf 1
                have rf2 := rf 2
                clear rf hb4
                go_wp2_with fail
                refine bodyPost_ret (rec_result (three_cells hbk5.out _ _ _) _ rfl) rfl ?_
                exact ⟨rfl, below_three (HB2.out.trans (B5.out.mono HB2.out.size)) HBQ.out _ _ _⟩
            · have hlt1 : (hv.length : Int) < (t : Int) + (m : Int) + 4 := by omega
              by_cases hu : u = SL.length
              · subst hu
                have hGG : GG = none := by
                  have q' := hq.out
                  rw [← HLl.out] at q'
                  exact q'.over hlt
                have hRR : R = none := by rw [HRq.out, hGG]; rfl
                subst hRR
                go_wp2_with fail
                refine bodyPost_ret (rec_result (three_cells HBK.out _ _ _) _ rfl) rfl ?_
                exact ⟨rfl, below_three HB2.out HBQ.out _ _ _⟩
              · have hu1 : ((u : Int) == (SL.length : Int)) = false := by simp; omega
                have hu2 : (u == SL.length) = false := by simp; omega
                have hu3 : (u : Int) < (SL.length : Int) := by omega
                have hu0 : (0 : Int) ≤ (u : Int) := by omega
                obtain ⟨y, hy⟩ : ∃ y, SL[u]? = some y := ⟨_, List.getElem?_eq_getElem (by omega)⟩
                have hyc := HC.out wr HB2.out u y hy
                have hy64 : y.size = 64 := H64.out y (List.mem_of_getElem? hy)
                have KP := hid fun W => prefix_any y (ba hd) W
                have hst := hq.out.step HT.out (HLx.out u y hy) (by rw [size_list]; exact hy64) hlt
                rw [HPL.out] at KP
                by_cases hp : y.data.toList.take hd.length = hd
                · have hst1 := hid (hst.1 hp)
                  rw [decide_eq_true hp] at KP
                  have c3 := fun W => PFold.cut_from y (hd.length : Int) (by omega) (by omega) W
                  rw [Int.toNat_natCast] at c3
                  have ey : y.extract hd.length y.size = ba (y.data.toList.drop hd.length) := bytes_eq (by rw [from_list, ba_list])
                  rw [ey] at c3
                  have hcat := hid (ba_app hv (y.data.toList.drop hd.length))
                  have hds : (ba (y.data.toList.drop hd.length)).size ≤ 64 := by rw [ba_size, List.length_drop, size_list]; omega
                  generalize ba (y.data.toList.drop hd.length) = z at *
                  generalize ba hv = v at *
                  clear hst hp ey hy
                  go_wp2_with fail
                  refine (KP.out _).mono ?_
                  rintro r w4 ⟨rfl, rfl⟩
                  go_wp2_with fail
                  go_roundw
                  case rel => exact ⟨hv ++ y.data.toList.drop hd.length, u + 1, by rw [← hcat.out], by go_num, trivial, hst1⟩
                  case measure => simp [intOf]; omega
                · have hGG := hst.2 hp
                  have hRR : R = none := by rw [HRq.out, hGG]; rfl
                  subst hRR
                  rw [decide_eq_false hp] at KP
                  clear hst hp hy
                  go_wp2_with fail
                  refine (KP.out _).mono ?_
                  rintro r w4 ⟨rfl, rfl⟩
                  go_wp2_with fail
                  refine bodyPost_ret (rec_result (three_cells HBK.out _ _ _) _ rfl) rfl ?_
                  exact ⟨rfl, below_three HB2.out HBQ.out _ _ _⟩
        · rw [if_neg (by omega)] at HR
          obtain rfl : R = none := HR
          have hm' : decide ((300 : Int) < (m : Int)) = true := by simp; omega
          have hm2 : decide (300 < m) = true := by simp; omega
          have hm3 : (300 : Int) < (m : Int) := by omega
          go_enter Try.func79, Try.ntmps79
          go_wp2_with fail
          refine (K1.out _).mono ?_
          rintro r w1 ⟨rfl, rfl⟩
          simp only [hdV]
          go_wp2_with fail
          refine (K2.out _).mono ?_
          rintro r w1 ⟨rfl, rfl⟩
          go_wp2_with fail
          go_returns
          exact ⟨rfl, (Below.refl _ w).alloc (Nat.le_refl _) _⟩
      · rw [if_neg (by omega)] at HR
        obtain rfl : R = none := HR
        have hz' : ((z : Int) != 0) = true := by simp; omega
        go_enter Try.func79, Try.ntmps79
        go_wp2_with fail
        refine (K1.out _).mono ?_
        rintro r w1 ⟨rfl, rfl⟩
        simp only [hdV]
        go_wp2_with fail
        refine (K2.out _).mono ?_
        rintro r w1 ⟨rfl, rfl⟩
        go_wp2_with fail
        go_returns
        exact ⟨rfl, (Below.refl _ w).alloc (Nat.le_refl _) _⟩
    · rw [if_neg hnn] at HR
      obtain rfl : R = none := HR
      have hnn' : (n' != n) = true := by simpa using hnn
      go_enter Try.func79, Try.ntmps79
      go_wp2_with fail
      refine (K1.out _).mono ?_
      rintro r w1 ⟨rfl, rfl⟩
      simp only [hdV]
      go_wp2_with fail
      go_returns
      exact ⟨rfl, (Below.refl _ w).alloc (Nat.le_refl _) _⟩

theorem getRecord_any (g o c : Nat) (n : Int) (w : World) (l : List ByteArray) (h : TxAt w g o c l) (h64 : ∀ x ∈ l, x.size = 64) (hl : l.length ≤ 256) (hn : Wl.I64 n) :
    Calls Try.prog 79 #[.slice (some ⟨g, o, none⟩) l.length c, .int .i64 n] w fun r w' => r = .returned (recV (Wl.getRec (lists l) n)) ∧ Below w.heap.size w w' := by
  cases l with
  | nil => exact getRecord_none g o c n w
  | cons s l => exact getRecord_cons g o c n w s l h h64 hl hn

end Go.Proofs.Ythfpinjegfgeiaa
