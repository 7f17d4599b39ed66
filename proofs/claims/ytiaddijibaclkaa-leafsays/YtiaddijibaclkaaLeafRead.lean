/- leaf.Read, walked: it answers what the plain function reads; the page lies in a row of its own; nothing that was there has turned. Condition: the text's length. -/
import Derived.Test.YtiaddijibaclkaaLeafSlot
import Derived.Test.YtiaddijibaclkaaLeafRows
namespace Go.Proofs.Ytiaddijibaclkaa.PLeaf
open Go Go.RowKit
set_option maxRecDepth 100000

def Lf.pre (A : List Lf.Sl) (o : Option (List Lf.Sl × Lf.By)) : Option (List Lf.Sl × Lf.By) := o.map fun p => (A ++ p.1, p.2)
theorem Lf.pre_nil (o : Option (List Lf.Sl × Lf.By)) : Lf.pre [] o = o := by cases o <;> rfl
theorem Lf.readN_some {m : Nat} {r : Lf.By} {x : Lf.Sl} {t : Nat} (h : Lf.getS r = some (x, t)) (A : List Lf.Sl) : Lf.pre A (Lf.readN (m + 1) r) = Lf.pre (A ++ [x]) (Lf.readN m (r.drop t)) := by
  rw [Lf.readN, h]
  simp only
  cases Lf.readN m (r.drop t) with
  | none => rfl
  | some p => simp [Lf.pre]
theorem Lf.readN_none {m : Nat} {r : Lf.By} (h : Lf.getS r = none) (A : List Lf.Sl) : Lf.pre A (Lf.readN (m + 1) r) = none := by
  rw [Lf.readN, h]; rfl

theorem read_result {W : World} {b : Nat} {v : Value} (h : W.cell? ⟨b, 0, none⟩ = some v) (tmps : Array Value) (h2 : tmps.getD 2 undef = .pointer (some ⟨b, 0, none⟩)) :
    (results Try.f53 tmps).run Try.prog W = .ok (.tuple #[.agg #[v], tmps.getD 3 undef]) W := by
  have h5 : tmps[2]?.getD undef = .pointer (some ⟨b, 0, none⟩) := by simpa using h2
  simp [results, Try.results53, go_sem, h5, h]

/-- One box ahead of all. -/
structure Bx1 (w w0 : World) (x : Value) : Prop where
  size : w0.heap.size = w.heap.size + 1
  below : Below w.heap.size w w0
  b0 : ∃ T, w0.heap[w.heap.size]? = some (.cells #[x] T (0, 0))
theorem Bx1.mk' (w : World) (x : Value) (T : TypeId) : Bx1 w (w.alloc (.cells #[x] T)) x := ⟨by simp, bx _ _, ⟨T, heap_alloc_new w _⟩⟩
section
variable {w w0 w1 : World} {x : Value} (h : Bx1 w w0 x)
include h
theorem Bx1.c0 (hb : Below w0.heap.size w0 w1) : w1.cell? ⟨w.heap.size, 0, none⟩ = some x := by
  obtain ⟨T, h0⟩ := h.b0
  have hg := (hb.block _ (by have := h.size; omega)).trans h0
  rw [cell_of_row w1 _ _ _ _ _ hg]; rfl
theorem Bx1.fz (hb : Below w0.heap.size w0 w1) : w1.frozen? ⟨w.heap.size, 0, none⟩ = false := by
  obtain ⟨T, h0⟩ := h.b0
  have hg := (hb.block _ (by have := h.size; omega)).trans h0
  simp [World.frozen?, hg]
theorem Bx1.out (hb : Below w0.heap.size w0 w1) (v : Value) : (w1.setCell ⟨w.heap.size, 0, none⟩ v).cell? ⟨w.heap.size, 0, none⟩ = some v := by
  obtain ⟨T, h0⟩ := h.b0
  have hg := (hb.block _ (by have := h.size; omega)).trans h0
  rw [setCell_eq_setRow w1 _ 0 _ T _ v hg]
  have := setRow_heap w1 _ #[x] (#[x].setIfInBounds 0 v) T _ hg
  rw [cell_of_row _ _ _ _ _ _ this]; rfl
theorem Bx1.end_ (hb : Below w0.heap.size w0 w1) (v : Value) : Below w.heap.size w (w1.setCell ⟨w.heap.size, 0, none⟩ v) :=
  (h.below.trans (hb.mono (by have := h.size; omega))).setCell (p := ⟨w.heap.size, 0, none⟩) (Nat.le_refl _) _
theorem Bx1.own {v u : Value} {X : List Lf.Sl} (ho : OwnPg w1 w0.heap.size v X) : OwnPg (w1.setCell ⟨w.heap.size, 0, none⟩ u) w.heap.size v X := by
  have h1 := ho.lower (base' := w.heap.size) (by have := h.size; omega)
  refine h1.keep fun g hg => Below.heap_setCell _ _ _ _ (fun e => ?_)
  have := (ho.lt g hg).1
  have := h.size
  have e' : g = w.heap.size := e
  omega
end

theorem slot_cells (W : World) (u : Bool) (t : ByteArray) : ∀ j v, (sc ⟨u, t⟩)[j]? = some v → (W.alloc (.cells #[.bool u, .string t] 90)).cell? ((⟨W.heap.size, 0, none⟩ : Addr).add j) = some v := by
  intro j v hj
  rw [Addr.add_mid, Nat.zero_add, cell_of_row _ _ _ _ _ _ (heap_alloc_new W _)]
  match j, hj with
  | 0, hj => exact hj
  | 1, hj => exact hj

/-- What Read answers. -/
def RdOut (w : World) (R : Option (List Lf.Sl)) (e : Ending) (w' : World) : Prop :=
  ∃ v, e = .returned (.tuple #[.agg #[v], .int .i64 (match R with | some _ => 0 | none => 4)]) ∧ OwnPg w' w.heap.size v (R.getD []) ∧ Below w.heap.size w w'

set_option maxHeartbeats 4000000 in
theorem read_any (s : ByteArray) (w : World) (hs : s.size ≤ 140737488355328) :
    Calls Try.prog 53 #[.string s] w (RdOut w (Lf.read s.data.toList)) := by
  have hb := PCode.Nb.get_bound s.data.toList 0 0 (by omega) (by omega)
  have HI := Lf.read.eq_1 s.data.toList
  obtain ⟨x, t, e, hG⟩ : ∃ x t e, PCode.Nb.getN 0 0 s.data.toList = (x, t, e) := ⟨_, _, _, rfl⟩
  have HC : Hid (∀ W, Calls Try.prog 8 #[.string s] W fun r w' => r = .returned (.tuple #[.int .u64 (x : Int), .int .i64 (t : Int), .int .i64 (e : Int)]) ∧ w' = W) := fun W => getNat_at s W x t e (by unfold maxLen; omega) hG
  rw [hG] at hb HI
  simp only at hb HI
  rw [Lf.size_list] at hb HI
  obtain ⟨hb1, hb2, hb3, hb4⟩ := hb
  have ht : (t : Int) ≤ (s.size : Int) := by omega
  have hs' : (s.size : Int) ≤ 140737488355328 := by omega
  clear hG
  generalize Lf.read s.data.toList = I at *
  by_cases hbad : e ≠ 0 ∨ 40 < x ∨ 512 < s.size
  · rw [if_pos hbad] at HI
    subst HI
    by_cases he : e = 0
    · subst he
      by_cases hx : 40 < x
      · have hx' : (40 : Int) < (x : Int) := by omega
        go_enter Try.func53, Try.ntmps53
        go_wp2_with fail
        refine (HC.out _).mono ?_
        rintro r w1 ⟨rfl, rfl⟩
        go_wp2_with fail
        refine bodyPost_ret (read_result (box1 (Below.refl _ _)) _ rfl) rfl ?_
        exact ⟨_, rfl, OwnPg.nil _ _, bx _ _⟩
      · have hx' : ¬ (40 : Int) < (x : Int) := by omega
        have hq : (512 : Int) < (s.size : Int) := by omega
        go_enter Try.func53, Try.ntmps53
        go_wp2_with fail
        refine (HC.out _).mono ?_
        rintro r w1 ⟨rfl, rfl⟩
        go_wp2_with fail
        refine bodyPost_ret (read_result (box1 (Below.refl _ _)) _ rfl) rfl ?_
        exact ⟨_, rfl, OwnPg.nil _ _, bx _ _⟩
    · have he' : ((e : Int) != 0) = true := by simp; omega
      go_enter Try.func53, Try.ntmps53
      go_wp2_with fail
      refine (HC.out _).mono ?_
      rintro r w1 ⟨rfl, rfl⟩
      go_wp2_with fail
      refine bodyPost_ret (read_result (box1 (Below.refl _ _)) _ rfl) rfl ?_
      exact ⟨_, rfl, OwnPg.nil _ _, bx _ _⟩
  · rw [if_neg hbad] at HI
    obtain rfl : e = 0 := by omega
    have hx : x ≤ 40 := by omega
    have hx' : ¬ (40 : Int) < (x : Int) := by omega
    have hx2 : (x : Int) ≤ 40 := by omega
    have hq : ¬ (512 : Int) < (s.size : Int) := by omega
    have hss : s.size ≤ 512 := by omega
    have hq0 : (0 : Int) ≤ (t : Int) := by omega
    have hsl : ∀ W : World, (Instr.slice 9 (.string s) (some (.int .i64 (t : Int))) none none).run Try.prog W = .ok (.string (s.extract t s.size)) W := fun W => by
      have h := run_slice_string_l (P := Try.prog) W 9 s Try.underlying9 .i64 (t : Int) (by omega) (by omega)
      rw [Int.toNat_natCast] at h
      exact h
    have eR : (s.extract t s.size).data.toList = s.data.toList.drop t := by rw [cut_list, List.take_of_length_le (by rw [List.length_drop, Lf.size_list]; omega)]
    rw [← eR] at HI
    have hRs : (s.extract t s.size).size ≤ 512 := by rw [ByteArray.size_extract]; omega
    have HRs := hid hRs
    have HI' := hid HI
    obtain ⟨i0, hi, hz0, hz1, hz2⟩ := info_parts slot_info
    clear HI eR hbad hRs
    generalize hR0 : s.extract t s.size = R0 at *
    clear hR0
    go_enter Try.func53, Try.ntmps53
    go_wp2_with fail
    refine (HC.out _).mono ?_
    rintro r w1 ⟨rfl, rfl⟩
    have BX := hid (Bx1.mk' w (.slice none 0 0) 73)
    generalize w.alloc (.cells #[.slice none 0 0] 73) = w0 at *
    go_wp2_with fail
    go_loopw [7, 8, 34] (fun v q i wr => ∃ (A : List Lf.Sl) (R : ByteArray), A.length ≤ x ∧ q = .string R ∧ i = .int .u64 (A.length : Int) ∧ R.size ≤ 512 ∧ Hid (OwnPg wr w0.heap.size v A) ∧ Hid (Lf.readN x R0.data.toList = Lf.pre A (Lf.readN (x - A.length) R.data.toList)) ∧ Hid (Below w0.heap.size w0 wr)) (fun _ _ i _ => x - (intOf i).toNat)
    case atStart => exact ⟨[], R0, Nat.zero_le _, rfl, rfl, HRs.out, OwnPg.nil _ _, (by show _ = _; rw [Lf.pre_nil]; rfl), Below.refl _ _⟩
    case round =>
      obtain ⟨A, R, hk, rfl, rfl, hRz, hO, hM, hB⟩ := hrel
      obtain ⟨a3, c3, rfl, hp3, _⟩ := hO.out.at_
      by_cases hlt : A.length < x
      · have k1 : (A.length : Int) < (x : Int) := by omega
        have KS := hid fun W => getSlot_any R W (by omega)
        obtain ⟨m, hm⟩ : ∃ m, x - A.length = m + 1 := ⟨x - A.length - 1, by omega⟩
        have hM' := hM.out
        rw [hm] at hM'
        cases hg : Lf.getS R.data.toList with
        | none =>
          rw [hg] at KS
          rw [Lf.readN_none hg] at hM'
          have hI := HI'.out
          rw [hM'] at hI
          have HI2 := hid hI
          clear hI hM' hM hg hp3 HI'
          go_wp2_with fail
          refine (KS.out _).mono ?_
          rintro r w2 ⟨rfl, hb⟩
          have B2 := hid (below_tr hB.out (below_tr hb (bx w2 (.cells #[.bool false, .string ⟨#[]⟩] 90))))
          have c1 := BX.out.c0 B2.out
          have f1 := BX.out.fz B2.out
          clear hb
          simp only [slotV]
          go_wp2_with fail
          refine bodyPost_ret (read_result (BX.out.out B2.out _) _ rfl) rfl ?_
          exact ⟨_, by rw [HI2.out]; rfl, by rw [HI2.out]; exact OwnPg.nil _ _, BX.out.end_ B2.out _⟩
        | some xt =>
          obtain ⟨y, tk⟩ := xt
          rw [hg] at KS
          rw [Lf.readN_some hg] at hM'
          obtain ⟨_, htk, _⟩ := Lf.getS_only hg
          rw [Lf.size_list] at htk
          have htk' : (tk : Int) ≤ (R.size : Int) := by omega
          have htk0 : (0 : Int) ≤ (tk : Int) := by omega
          have hsl2 : ∀ W : World, (Instr.slice 9 (.string R) (some (.int .i64 (tk : Int))) none none).run Try.prog W = .ok (.string (R.extract tk R.size)) W := fun W => by
            have h := run_slice_string_l (P := Try.prog) W 9 R Try.underlying9 .i64 (tk : Int) (by omega) (by omega)
            rw [Int.toNat_natCast] at h
            exact h
          have eR : (R.extract tk R.size).data.toList = R.data.toList.drop tk := by rw [cut_list, List.take_of_length_le (by rw [List.length_drop, Lf.size_list]; omega)]
          have el : (A ++ [y]).length = A.length + 1 := by simp
          rw [← eR, show m = x - (A ++ [y]).length by omega] at hM'
          have HL := hid el
          have HM2 := hid hM'
          have HR2 : Hid ((R.extract tk R.size).size ≤ 512) := by show _ ≤ _; rw [ByteArray.size_extract]; omega
          generalize R.extract tk R.size = R2 at *
          clear hM' hM hg hp3 eR htk el
          obtain ⟨u, tx⟩ := y
          go_wp2_with fail
          refine (KS.out _).mono ?_
          rintro r w2 ⟨rfl, hb⟩
          simp only [slotV]
          have B2 := hid (below_tr hB.out (below_tr hb (bx w2 (.cells #[.bool u, .string tx] 90))))
          have O2 := hid (hO.out.below (below_tr hb (bx w2 (.cells #[.bool u, .string tx] 90))))
          clear hb hO hB
          go_wp2_with (at_builtin; refine wpList_append_own _ rfl _ _ 71 rfl w0.heap.size 90 i0 (.agg #[.bool false, .string ⟨#[]⟩]) 2 24 Try.underlying71 hi hz0 hz1 hz2 rfl (by decide) _ _ _ rfl (O2.out.keepAlloc _) ⟨w2.heap.size + 1, 0, none⟩ 1 1 (sc ⟨u, tx⟩) rfl rfl ?qc2 ?qc3 ?qc4 ?qc5 ?qc6 ?_)
          case qc2 =>
            have := slot_cells (w2.alloc (.cells #[.bool u, .string tx] 90)) u tx
            rw [World.size_alloc] at this
            exact this
          case qc3 => exact sc_one _
          case qc4 => unfold maxLen; omega
          case qc5 => omega
          case qc6 => have := B2.out.size; simp at this ⊢; omega
          intro v' w4 hown hgrow _
          have O5 := hid (OwnPg.grows hown)
          have B5 : Hid (Below w0.heap.size w0 w4) := (B2.out.alloc B2.out.size _).grown hgrow (by have := B2.out.size; simp at this ⊢; omega) (fun k hk => (O2.out.lt k hk).1)
          clear hown hgrow O2 B2
          go_wp2_with fail
          go_roundw
          case rel => exact ⟨A ++ [⟨u, tx⟩], R2, by rw [HL.out]; omega, rfl, by rw [HL.out]; go_num, HR2.out, O5, HM2, B5⟩
          case measure => simp [intOf]; omega
      · obtain rfl : x = A.length := by omega
        have j1 : decide ((A.length : Int) < (A.length : Int)) = false := by simp
        have hM' := hM.out
        rw [Nat.sub_self, Lf.readN] at hM'
        have hI := HI'.out
        rw [hM'] at hI
        simp only [Lf.pre, Option.map_some, List.append_nil] at hI
        have P3 := hid hp3
        have KE := hid (ends_any wr a3 c3 A hp3 (by omega))
        clear hM' hM HI' hp3
        by_cases hz : R.size = 0
        · have hR := Lf.size_nil hz
          subst hR
          by_cases hE : Lf.ends A = true
          · rw [if_neg (by rintro ⟨_, e⟩; rw [hE] at e; cases e)] at hI
            rw [hE] at KE
            have HI2 := hid hI
            have c1 := BX.out.c0 hB.out
            have f1 := BX.out.fz hB.out
            clear hI hE hz
            unfold Lf.nob
            go_wp2_with fail
            refine KE.out.mono ?_
            rintro r w2 ⟨rfl, rfl⟩
            go_wp2_with fail
            refine bodyPost_ret (read_result (BX.out.out hB.out _) _ rfl) rfl ?_
            exact ⟨_, by rw [HI2.out]; rfl, by rw [HI2.out]; exact OwnPg.nil _ _, BX.out.end_ hB.out _⟩
          · have hE' : Lf.ends A = false := by simpa using hE
            rw [if_pos ⟨rfl, hE'⟩] at hI
            rw [hE'] at KE
            have HI2 := hid hI
            have c1 := BX.out.c0 hB.out
            have f1 := BX.out.fz hB.out
            clear hI hE hE' hz
            unfold Lf.nob
            go_wp2_with fail
            refine KE.out.mono ?_
            rintro r w2 ⟨rfl, rfl⟩
            go_wp2_with fail
            refine bodyPost_ret (read_result (BX.out.out hB.out _) _ rfl) rfl ?_
            exact ⟨_, by rw [HI2.out]; rfl, by rw [HI2.out]; exact BX.out.own hO.out, BX.out.end_ hB.out _⟩
        · have hne := text_some hz
          rw [if_neg (by rintro ⟨e, _⟩; apply hz; rw [← Lf.size_list, e]; rfl)] at hI
          have HI2 := hid hI
          have c1 := BX.out.c0 hB.out
          have f1 := BX.out.fz hB.out
          clear hI hz KE
          go_wp2_with fail
          refine bodyPost_ret (read_result (BX.out.out hB.out _) _ rfl) rfl ?_
          exact ⟨_, by rw [HI2.out]; rfl, by rw [HI2.out]; exact OwnPg.nil _ _, BX.out.end_ hB.out _⟩

end Go.Proofs.Ytiaddijibaclkaa.PLeaf
