/- A log's texts, walked: strings.HasPrefix, fill, putHead, putAnchor, getAnchor, getHead. -/
import Derived.Test.YthfpinjegfgeiaaWalMix
import Derived.Test.YthfpinjegfgeiaaFoldGet
import Derived.Test.YthfpinjegfgeiaaSectTx
import Derived.Test.YthfpinjegfgeiaaSectRep
import Derived.Handy
import Derived.Laws.Concat
namespace Go.Proofs.Ythfpinjegfgeiaa
open Go Go.RowKit
set_option maxRecDepth 100000

def ba (l : List UInt8) : ByteArray := ⟨l.toArray⟩
theorem ba_size (l : List UInt8) : (ba l).size = l.length := by show l.toArray.size = _; simp
theorem ba_list (l : List UInt8) : (ba l).data.toList = l := by simp [ba]
theorem ba_back (s : ByteArray) : ba s.data.toList = s := bc_back s
theorem size_list (s : ByteArray) : s.data.toList.length = s.size := by rw [Array.length_toList]; rfl
theorem bytes_eq {a b : ByteArray} (h : a.data.toList = b.data.toList) : a = b := Go.WideShapes.bytes_inj h
theorem app_list (a b : ByteArray) : (a ++ b).data.toList = a.data.toList ++ b.data.toList := by
  have h : (a ++ b).data = a.data ++ b.data := ByteArray.data_append
  rw [h, Array.toList_append]
theorem ba_app (a b : List UInt8) : ba a ++ ba b = ba (a ++ b) := bytes_eq (by rw [app_list, ba_list, ba_list, ba_list])
theorem cut_list (s : ByteArray) (a b : Nat) : (s.extract a b).data.toList = (s.data.toList.drop a).take (b - a) := Lib.extract_data s a b
theorem str_same {a b : ByteArray} (h : a = b) : (a.toList == b.toList) = true := by rw [h]; simp
theorem str_other {a b : ByteArray} (h : a ≠ b) : (a.toList == b.toList) = false := by
  rw [beq_eq_false_iff_ne]; intro hx; exact h (bytes_eq (by rw [← Lib.toList_data, ← Lib.toList_data]; exact hx))
theorem str_dec (a b : ByteArray) : (a.toList == b.toList) = decide (a = b) := by
  by_cases h : a = b
  · rw [str_same h]; simp [h]
  · rw [str_other h]; simp [h]

theorem below_eq {w w' : World} (h : w' = w) : Below w.heap.size w w' := h ▸ Below.refl _ _
theorem below_tr {a b c : World} (h : Below a.heap.size a b) (k : Below b.heap.size b c) : Below a.heap.size a c := h.trans (k.mono h.size)

/-! ### HasPrefix -/
def hasPre (s p : ByteArray) : Bool := decide (s.data.toList.take p.size = p.data.toList)
theorem pre_cut (s p : ByteArray) : (s.extract 0 p.size = p) ↔ s.data.toList.take p.size = p.data.toList := by
  constructor
  · intro h
    have := congrArg (fun x => x.data.toList) h
    rw [cut_list] at this
    simpa using this
  · intro h
    apply bytes_eq
    rw [cut_list]
    simpa using h

set_option maxHeartbeats 1000000 in
theorem slPrefix_any (s p : ByteArray) (w : World) :
    Calls Try.prog 92 #[.string s, .string p] w fun e w' => e = .returned (.bool (hasPre s p)) ∧ w' = w := by
  by_cases h : p.size ≤ s.size
  · have h1 : decide ((p.size : Int) ≤ (s.size : Int)) = true := by simp; omega
    have h2 : decide (p.size ≤ s.size) = true := by simp; omega
    have e1 := fun W => PFold.cut_to s (p.size : Int) (by omega) (by omega) W
    rw [Int.toNat_natCast] at e1
    have hq : hasPre s p = ((s.extract 0 p.size).toList == p.toList) := by
      rw [str_dec]; unfold hasPre; simp only [pre_cut]
    rw [hq]
    clear hq
    generalize s.extract 0 p.size = q at *
    have h3 : (p.size : Int) ≤ (s.size : Int) := by omega
    go_enter Try.func92, Try.ntmps92
    go_wp2_with fail
    go_ret
    exact ⟨rfl, rfl⟩
  · have h1 : decide ((p.size : Int) ≤ (s.size : Int)) = false := by simp; omega
    have h2 : decide (p.size ≤ s.size) = false := by simp; omega
    have hq : hasPre s p = false := by
      unfold hasPre
      rw [decide_eq_false_iff_not]
      intro e
      have := congrArg List.length e
      rw [List.length_take, size_list, size_list] at this
      omega
    rw [hq]
    have h3 : ¬ (p.size : Int) ≤ (s.size : Int) := by omega
    go_enter Try.func92, Try.ntmps92
    go_wp2_with fail
    go_ret
    exact ⟨rfl, rfl⟩

theorem prefix_any (s p : ByteArray) (w : World) :
    Calls Try.prog 84 #[.string s, .string p] w fun e w' => e = .returned (.bool (hasPre s p)) ∧ w' = w := by
  have H := hid fun W => slPrefix_any s p W
  go_enter Try.func84, Try.ntmps84
  go_wp2_with fail
  refine (H.out _).mono ?_
  rintro r w1 ⟨rfl, rfl⟩
  go_wp2_with fail
  go_ret
  exact ⟨rfl, rfl⟩

/-! ### fill -/
theorem fill_any (s : ByteArray) (w : World) (hs : s.size ≤ 64) :
    Calls Try.prog 77 #[.string s] w fun e w' => e = .returned (.string (pad s)) ∧ Below w.heap.size w w' := by
  have H := hid fun W => repeat_any (64 - s.size) (by omega) W
  have hc : (64 : Int) - (s.size : Int) = ((64 - s.size : Nat) : Int) := by omega
  have hz := zeros_size (64 - s.size)
  have HP : Hid (s ++ zeros (64 - s.size) = pad s) := rfl
  generalize zeros (64 - s.size) = z at *
  have hs' : (s.size : Int) ≤ 64 := by omega
  go_enter Try.func77, Try.ntmps77
  go_wp2_with fail
  refine (H.out _).mono ?_
  rintro r w1 ⟨rfl, hb⟩
  go_wp2_with fail
  go_ret
  exact ⟨by rw [← HP.out]; rfl, hb⟩

/-! ### putHead -/
theorem ba_int (k : Int) : (⟨(PCode.Nb.natB (PCode.Nb.zig k)).toArray⟩ : ByteArray) = ba (Wl.intB k) := rfl

theorem putHead_any (m : UInt8) (e n : Int) (w : World) (he : Wl.I64 e) (hn : Wl.I64 n) :
    Calls Try.prog 82 #[.string ⟨#[m]⟩, .int .i64 e, .int .i64 n] w fun r w' => r = .returned (.string (ba (Wl.headB m e n))) ∧ Below w.heap.size w w' := by
  have H1 := fun W => PCode.putInt_any e W he.1 he.2
  have H2 := fun W => PCode.putInt_any n W hn.1 hn.2
  simp only [ba_int] at H1 H2
  have H1' := hid H1
  have H2' := hid H2
  have l1 := (Wl.intB_len e he).2
  have l2 := (Wl.intB_len n hn).2
  rw [← ba_size] at l1 l2
  have HE : Hid ((⟨#[m]⟩ : ByteArray) ++ ba (Wl.intB e) ++ ba (Wl.intB n) = ba (Wl.headB m e n)) := by
    show _ = _
    apply bytes_eq
    rw [app_list, app_list, ba_list, ba_list, ba_list]
    simp [Wl.headB]
  have s0 : (⟨#[m]⟩ : ByteArray).size = 1 := rfl
  clear H1 H2
  generalize ba (Wl.intB e) = x at *
  generalize ba (Wl.intB n) = y at *
  generalize (⟨#[m]⟩ : ByteArray) = q at *
  have s1 : (q ++ x).size = q.size + x.size := ByteArray.size_append
  go_enter Try.func82, Try.ntmps82
  go_wp2_with fail
  refine (H1'.out _).mono ?_
  rintro r w1 ⟨rfl, hb1⟩
  go_wp2_with fail
  refine (H2'.out _).mono ?_
  rintro r w2 ⟨rfl, hb2⟩
  go_wp2_with fail
  go_ret
  exact ⟨by rw [← HE.out]; rfl, below_tr hb1 hb2⟩

/-! ### putAnchor -/
def anchorB (e : Int) : ByteArray := pad (ba (3 :: Wl.sumF (Wl.intB e)))
theorem fold_put (c : List UInt8) : ba c ++ PFold.sumB (ba c) = ba (Wl.sumF c) := by
  apply bytes_eq
  rw [app_list, ba_list, ba_list]
  unfold PFold.sumB Wl.sumF
  rw [ba_list]
theorem sumF_len (c : List UInt8) : (Wl.sumF c).length = c.length + 4 := by unfold Wl.sumF; rw [List.length_append, PFold.Fo.four_len]

theorem putAnchor_any (e : Int) (w : World) (he : Wl.I64 e) :
    Calls Try.prog 78 #[.int .i64 e] w fun r w' => r = .returned (.string (anchorB e)) ∧ Below w.heap.size w w' := by
  have H1 := fun W => PCode.putInt_any e W he.1 he.2
  have l1 := (Wl.intB_len e he).2
  have H2 := fun W => PFold.put_fits (ba (Wl.intB e)) W (by rw [ba_size]; omega)
  simp only [ba_int] at H1
  rw [fold_put] at H2
  have l2 := sumF_len (Wl.intB e)
  have H3 := fun W => fill_any (ba (3 :: Wl.sumF (Wl.intB e))) W (by rw [ba_size]; simp; omega)
  have H1' := hid H1
  have H2' := hid H2
  have H3' : Hid (∀ W, Calls Try.prog 77 #[.string (ba (3 :: Wl.sumF (Wl.intB e)))] W fun r w' => r = .returned (.string (anchorB e)) ∧ Below W.heap.size W w') := H3
  have HE : Hid ((⟨#[3]⟩ : ByteArray) ++ ba (Wl.sumF (Wl.intB e)) = ba (3 :: Wl.sumF (Wl.intB e))) := by
    show _ = _
    apply bytes_eq
    rw [app_list, ba_list, ba_list]
    rfl
  have l3 : (ba (Wl.sumF (Wl.intB e))).size ≤ 14 := by rw [ba_size]; omega
  clear H1 H2 H3 l1 l2
  generalize ba (Wl.intB e) = x at *
  generalize ba (Wl.sumF (Wl.intB e)) = y at *
  generalize ba (3 :: Wl.sumF (Wl.intB e)) = z at *
  generalize anchorB e = a at *
  go_enter Try.func78, Try.ntmps78
  go_wp2_with fail
  refine (H1'.out _).mono ?_
  rintro r w1 ⟨rfl, hb1⟩
  go_wp2_with fail
  refine (H2'.out _).mono ?_
  rintro r w2 ⟨rfl, hb2⟩
  go_wp2_with fail
  rw [HE.out]
  refine (H3'.out _).mono ?_
  rintro r w3 ⟨rfl, hb3⟩
  go_wp2_with fail
  go_ret
  exact ⟨rfl, below_tr (below_tr hb1 hb2) hb3⟩

end Go.Proofs.Ythfpinjegfgeiaa
