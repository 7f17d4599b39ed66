/- A log's texts, walked: getAnchor, getHead. -/
import Derived.Test.YthfpinjegfgeiaaWalText
namespace Go.Proofs.Ythfpinjegfgeiaa
open Go Go.RowKit
set_option maxRecDepth 100000

theorem from_list (s : ByteArray) (k : Nat) : (s.extract k s.size).data.toList = s.data.toList.drop k := by
  rw [cut_list]
  exact List.take_of_length_le (by rw [List.length_drop, size_list]; omega)

/-- Which epoch's anchor a sector is. -/
def getA (s : ByteArray) : Int × Bool :=
  if s = zeros 64 then (0, true)
  else if (PCode.Nb.getI (s.data.toList.drop 1)).2.2 = 0 ∧ 0 ≤ (PCode.Nb.getI (s.data.toList.drop 1)).1 ∧ (PCode.Nb.getI (s.data.toList.drop 1)).1 ≤ 1000000 then ((PCode.Nb.getI (s.data.toList.drop 1)).1, decide (s = anchorB (PCode.Nb.getI (s.data.toList.drop 1)).1))
  else (0, false)

theorem pad_none : pad ⟨#[]⟩ = zeros 64 := by
  apply bytes_eq
  unfold pad
  rw [app_list]
  rfl

set_option maxHeartbeats 1000000 in
theorem getAnchor_any (s : ByteArray) (w : World) (hs : s.size = 64) :
    Calls Try.prog 60 #[.string s] w fun r w' => r = .returned (.tuple #[.int .i64 (getA s).1, .bool (getA s).2]) ∧ Below w.heap.size w w' := by
  have H1 := fun W => fill_any ⟨#[]⟩ W (by show 0 ≤ 64; omega)
  rw [pad_none] at H1
  have HA := getA.eq_1 s
  have e1 := fun W => PFold.cut_from s 1 (by omega) (by omega) W
  have H2 := fun W => PCode.getInt_any (s.extract 1 s.size) W (by rw [ByteArray.size_extract, hs]; unfold maxLen; omega)
  rw [show (1 : Int).toNat = 1 from rfl] at e1
  rw [from_list] at H2
  have H3 := fun W => putAnchor_any (PCode.Nb.getI (s.data.toList.drop 1)).1 W (Wl.getI_in _)
  have hin := Wl.getI_in (s.data.toList.drop 1)
  generalize PCode.Nb.getI (s.data.toList.drop 1) = I at *
  obtain ⟨e, t, c⟩ := I
  simp only at H2 H3 HA hin
  have H1' := hid H1
  have H2' := hid H2
  have H3' := hid H3
  have q2 := str_dec s (anchorB e)
  generalize anchorB e = A at *
  generalize zeros 64 = Z at *
  generalize s.extract 1 s.size = x at *
  generalize getA s = G at *
  clear H1 H2 H3
  by_cases h1 : s = Z
  · rw [if_pos h1] at HA
    subst HA
    have h1' : (s.toList == Z.toList) = true := str_same h1
    clear h1
    go_enter Try.func60, Try.ntmps60
    go_wp2_with fail
    refine (H1'.out _).mono ?_
    rintro r w1 ⟨rfl, hb1⟩
    go_wp2_with fail
    go_ret2
    exact ⟨rfl, hb1⟩
  · rw [if_neg h1] at HA
    have h1' : (s.toList == Z.toList) = false := str_other h1
    clear h1
    by_cases h2 : c = 0 ∧ 0 ≤ e ∧ e ≤ 1000000
    · rw [if_pos h2] at HA
      obtain ⟨h2, h3, h4⟩ := h2
      subst h2
      subst HA
      go_enter Try.func60, Try.ntmps60
      go_wp2_with fail
      refine (H1'.out _).mono ?_
      rintro r w1 ⟨rfl, hb1⟩
      go_wp2_with fail
      refine (H2'.out _).mono ?_
      rintro r w2 ⟨rfl, rfl⟩
      go_wp2_with fail
      refine (H3'.out _).mono ?_
      rintro r w3 ⟨rfl, hb3⟩
      go_wp2_with fail
      go_ret2
      exact ⟨rfl, below_tr hb1 hb3⟩
    · rw [if_neg h2] at HA
      subst HA
      by_cases h3 : c = 0
      · subst h3
        have h4 : e < 0 ∨ (0 ≤ e ∧ 1000000 < e) := by omega
        clear h2
        rcases h4 with h4 | ⟨h4, h5⟩
        · have h4' : decide (e < 0) = true := by simpa using h4
          go_enter Try.func60, Try.ntmps60
          go_wp2_with fail
          refine (H1'.out _).mono ?_
          rintro r w1 ⟨rfl, hb1⟩
          go_wp2_with fail
          refine (H2'.out _).mono ?_
          rintro r w2 ⟨rfl, rfl⟩
          go_wp2_with fail
          go_ret2
          exact ⟨rfl, hb1⟩
        · have h4' : decide (e < 0) = false := by simpa using h4
          have h5' : decide (1000000 < e) = true := by simpa using h5
          go_enter Try.func60, Try.ntmps60
          go_wp2_with fail
          refine (H1'.out _).mono ?_
          rintro r w1 ⟨rfl, hb1⟩
          go_wp2_with fail
          refine (H2'.out _).mono ?_
          rintro r w2 ⟨rfl, rfl⟩
          go_wp2_with fail
          go_ret2
          exact ⟨rfl, hb1⟩
      · have h3' : ((c : Int) != 0) = true := by simp; omega
        clear h2
        go_enter Try.func60, Try.ntmps60
        go_wp2_with fail
        refine (H1'.out _).mono ?_
        rintro r w1 ⟨rfl, hb1⟩
        go_wp2_with fail
        refine (H2'.out _).mono ?_
        rintro r w2 ⟨rfl, rfl⟩
        go_wp2_with fail
        go_ret2
        exact ⟨rfl, hb1⟩

/-! ### getHead -/
theorem getI_small (l : List UInt8) : (PCode.Nb.getI l).2.1 ≤ 10 ∧ (PCode.Nb.getI l).2.2 ≤ 4 := by
  unfold PCode.Nb.getI
  have := PCode.Nb.get_bound l 0 0 (by omega) (by omega)
  split <;> simp <;> omega

theorem results_tmp4 {fn : Func} {t u v x : Tmp} (h : fn.results = #[.tmp t, .tmp u, .tmp v, .tmp x]) (tmps : Array Value) (P : Program) (w : World) :
    (results fn tmps).run P w = .ok (.tuple #[tmps.getD t undef, tmps.getD u undef, tmps.getD v undef, tmps.getD x undef]) w := by
  simp [results, h]

def hdV : Option (Int × Int × Nat) → Value
  | none => .tuple #[.int .i64 0, .int .i64 0, .int .i64 0, .bool false]
  | some (e, n, k) => .tuple #[.int .i64 e, .int .i64 n, .int .i64 (k : Int), .bool true]

theorem pre_one (s : ByteArray) : hasPre s ⟨#[1]⟩ = decide (s.data.toList.head? = some 1) := by
  unfold hasPre
  show decide (s.data.toList.take 1 = [1]) = _
  generalize s.data.toList = l
  cases l with
  | nil => rfl
  | cons a l => simp

set_option maxHeartbeats 1000000 in
theorem getHead_any (s : ByteArray) (w : World) (hs : s.size = 64) :
    Calls Try.prog 89 #[.string s] w fun r w' => r = .returned (hdV (Wl.getHd s.data.toList)) ∧ w' = w := by
  have HG := Wl.getHd.eq_1 s.data.toList
  have H0 := fun W => prefix_any s ⟨#[1]⟩ W
  rw [pre_one] at H0
  have e1 := fun W => PFold.cut_from s 1 (by omega) (by omega) W
  have H2 := fun W => PCode.getInt_any (s.extract 1 s.size) W (by rw [ByteArray.size_extract, hs]; unfold maxLen; omega)
  rw [show (1 : Int).toNat = 1 from rfl] at e1
  rw [from_list] at H2
  have b1 := getI_small (s.data.toList.drop 1)
  obtain ⟨e, t, c, hI⟩ : ∃ e t c, PCode.Nb.getI (s.data.toList.drop 1) = (e, t, c) := ⟨_, _, _, rfl⟩
  rw [hI] at HG H2 b1
  simp only at HG H2 b1
  have e2 := fun W => PFold.cut_from s (1 + (t : Int)) (by omega) (by omega) W
  have H3 := fun W => PCode.getInt_any (s.extract (1 + t) s.size) W (by rw [ByteArray.size_extract, hs]; unfold maxLen; omega)
  rw [show (1 + (t : Int)).toNat = 1 + t from by omega] at e2
  rw [from_list] at H3
  have b2 := getI_small (s.data.toList.drop (1 + t))
  obtain ⟨n, u, d, hJ⟩ : ∃ n u d, PCode.Nb.getI (s.data.toList.drop (1 + t)) = (n, u, d) := ⟨_, _, _, rfl⟩
  rw [hJ] at HG H3 b2
  simp only at HG H3 b2
  clear hI hJ
  have H0' := hid H0
  have H2' := hid H2
  have H3' := hid H3
  generalize s.extract 1 s.size = x at *
  generalize s.extract (1 + t) s.size = y at *
  generalize Wl.getHd s.data.toList = G at *
  generalize s.data.toList.head? = o at *
  clear H0 H2 H3
  by_cases h1 : o = some 1
  · rw [if_pos h1] at HG
    subst h1
    rw [decide_eq_true (by rfl)] at H0'
    by_cases h2 : c = 0
    · subst h2
      rw [if_pos rfl] at HG
      by_cases h3 : d = 0
      · subst h3
        rw [if_pos rfl] at HG
        subst HG
        obtain ⟨b1, -⟩ := b1
        obtain ⟨b2, -⟩ := b2
        go_enter Try.func89, Try.ntmps89
        go_wp2_with fail
        refine (H0'.out _).mono ?_
        rintro r w1 ⟨rfl, rfl⟩
        go_wp2_with fail
        refine (H2'.out _).mono ?_
        rintro r w2 ⟨rfl, rfl⟩
        go_wp2_with fail
        refine (H3'.out _).mono ?_
        rintro r w3 ⟨rfl, rfl⟩
        go_wp2_with fail
        refine bodyPost_ret (results_tmp4 rfl _ _ _) rfl ?_
        exact ⟨rfl, rfl⟩
      · rw [if_neg h3] at HG
        subst HG
        have h3' : ((d : Int) != 0) = true := by simp; omega
        obtain ⟨b1, -⟩ := b1
        obtain ⟨b2, b3⟩ := b2
        go_enter Try.func89, Try.ntmps89
        go_wp2_with fail
        refine (H0'.out _).mono ?_
        rintro r w1 ⟨rfl, rfl⟩
        go_wp2_with fail
        refine (H2'.out _).mono ?_
        rintro r w2 ⟨rfl, rfl⟩
        go_wp2_with fail
        refine (H3'.out _).mono ?_
        rintro r w3 ⟨rfl, rfl⟩
        go_wp2_with fail
        refine bodyPost_ret (results_tmp4 rfl _ _ _) rfl ?_
        exact ⟨rfl, rfl⟩
    · rw [if_neg h2] at HG
      subst HG
      have h2' : ((c : Int) != 0) = true := by simp; omega
      go_enter Try.func89, Try.ntmps89
      go_wp2_with fail
      refine (H0'.out _).mono ?_
      rintro r w1 ⟨rfl, rfl⟩
      go_wp2_with fail
      refine (H2'.out _).mono ?_
      rintro r w2 ⟨rfl, rfl⟩
      go_wp2_with fail
      refine bodyPost_ret (results_tmp4 rfl _ _ _) rfl ?_
      exact ⟨rfl, rfl⟩
  · rw [if_neg h1] at HG
    subst HG
    rw [decide_eq_false h1] at H0'
    go_enter Try.func89, Try.ntmps89
    go_wp2_with fail
    refine (H0'.out _).mono ?_
    rintro r w1 ⟨rfl, rfl⟩
    go_wp2_with fail
    refine bodyPost_ret (results_tmp4 rfl _ _ _) rfl ?_
    exact ⟨rfl, rfl⟩

end Go.Proofs.Ythfpinjegfgeiaa
