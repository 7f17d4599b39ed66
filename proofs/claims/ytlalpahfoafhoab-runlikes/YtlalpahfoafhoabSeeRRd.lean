/- quirref.Reads, quirref.Last, walked: each answers what the plain words say, and nothing that was there has turned. Conditions: the run is right; the capacity is no less than the length. -/
import Derived.Test.YtlalpahfoafhoabRunWrt
import Derived.Test.YtlalpahfoafhoabSeeRds
namespace Go.Proofs.Ytlalpahfoafhoab.PSee
open Go Go.RowKit PPool PGraph PRun
set_option maxRecDepth 100000

set_option maxHeartbeats 4000000 in
theorem rreads_any (w : World) (a : Option Addr) (c : Nat) (X : List Rn.Op) (h : OpAt w a X) (hv : Rn.check X = 0) (hcap : X.length ≤ c) :
    Calls Try.prog 48 #[.slice a X.length c] w fun e w' => ∃ v, e = .returned v ∧ OwnPr 95 w' w.heap.size v (Se.seen X X.length) ∧ Below w.heap.size w w' := by
  have H := hid h
  have lx := (Rn.check_zero hv).1
  have KL := hid fun W j it h hj => writer_any W a c X j it h hv hcap hj
  obtain ⟨i0, hi, hz0, hz1, hz2⟩ := info_parts seen_info
  clear hv h
  have A0 : Hid (RdAt w w (.slice none 0 0) (Se.seen X 0)) := ⟨OwnPr.nil _ _, Below.refl _ _⟩
  go_enter Try.func48, Try.ntmps48
  go_wp2_with fail
  go_loopw [3, 4, 5, 8] (fun v _ _ i wr => ∃ (k : Nat) (V : Value), k ≤ X.length ∧ V = v ∧ i = .int .i64 (k : Int) ∧ Hid (RdAt w wr V (Se.seen X k))) (fun _ _ _ i _ => X.length - (intOf i).toNat)
  case atStart => exact ⟨0, _, Nat.zero_le _, rfl, rfl, A0⟩
  case round =>
    clear A0
    obtain ⟨k, v, hk, rfl, rfl, hA⟩ := hrel
    by_cases hlt : k < X.length
    · obtain ⟨x, hx⟩ : ∃ x, X[k]? = some x := ⟨_, List.getElem?_eq_getElem hlt⟩
      obtain ⟨b, o, rfl, d1, d2, d3⟩ := (H.out.below hA.out.bel) k x hx
      have k0 : (0 : Int) ≤ (k : Int) := by omega
      have k1 : (k : Int) < (X.length : Int) := by omega
      have HR := hid (fun h => seen_read hx h)
      have HS := hid (fun h => seen_skip hx h)
      have KL := hid fun W it h => KL.out W k it h (by omega)
      have hlen : (Se.seen X k).length ≤ 200 := by rw [Se.seen_len]; have := Se.rds_len X k; omega
      clear hx
      obtain ⟨ox, ok, oi⟩ := x
      simp only at d1 d2 d3 HR HS
      obtain ⟨L, hL⟩ : ∃ L, L = Se.seen X k := ⟨_, rfl⟩
      rw [← hL] at hA HR HS hlen
      clear hL
      have A1 : ∀ o1 : Obj, Hid (RdAt w (wr.alloc o1) v L) := fun o1 => hA.out.below (bx _ _)
      clear hA
      by_cases hk1 : ok = 1
      rotate_left
      · have HF : Hid (Se.seen X (k + 1) = L) := HS.out hk1
        have hkB : (ok == 1) = false := by simpa using hk1
        clear HR HS hk1
        go_wp2_with fail
        go_roundw
        case rel => exact ⟨k + 1, v, by omega, rfl, by go_num, by rw [HF.out]; exact A1 _⟩
        case measure => simp [intOf]; omega
      · subst hk1
        obtain ⟨z, hz⟩ : ∃ z, z = wrN (wrI X k oi k) := ⟨_, rfl⟩
        have HF : Hid (Se.seen X (k + 1) = L ++ [⟨(k : Int), z⟩]) := by rw [hz]; exact HR.out rfl
        have KL := hid fun W h => KL.out W oi h
        rw [← hz] at KL
        clear hz HR HS
        go_wp2_with fail
        refine (KL.out _ (H.out.below (A1 _).out.bel)).mono ?_
        rintro r w2 ⟨rfl, hb2⟩
        have A2 : Hid (RdAt w w2 v L) := (A1 _).out.below hb2
        have A3 : ∀ o1 : Obj, Hid (RdAt w (w2.alloc o1) v L) := fun o1 => A2.out.below (bx _ _)
        have N3 : ∀ T, Hid (∀ j u, (sc ⟨(k : Int), z⟩)[j]? = some u → (w2.alloc (.cells #[.int .i64 (k : Int), .int .i64 z] T)).cell? ((⟨w2.heap.size, 0, none⟩ : Addr).add j) = some u) := fun T => pair_news (ArrAt.new w2 _ T)
        clear hb2 A1 A2 KL
        go_wp2_with (at_builtin; refine wpList_append_own _ rfl _ _ 87 rfl w.heap.size 95 i0 (.agg #[.int .i64 0, .int .i64 0]) 2 16 Try.underlying87 hi hz0 hz1 hz2 rfl (by decide) _ _ _ rfl (A3 _).out.out ⟨w2.heap.size, 0, none⟩ 1 1 (sc ⟨(k : Int), z⟩) rfl rfl (N3 _).out (sc_one _) (by unfold maxLen; omega) (by omega) (A3 _).out.bel.size ?_)
        intro v' w5 a1 a2 a3
        have A5 : Hid (RdAt w w5 v' (L ++ [⟨(k : Int), z⟩])) := ⟨OwnPr.grows a1, (A3 _).out.bel.grown a2 (A3 _).out.bel.size (fun b hb => ((A3 (.cells #[] 0)).out.out.lt b hb).1)⟩
        clear a1 a2 a3 A3 N3
        go_wp2_with fail
        go_roundw
        case rel => exact ⟨k + 1, _, by omega, rfl, by go_num, by rw [HF.out]; exact A5⟩
        case measure => simp [intOf]; omega
    · obtain rfl : k = X.length := by omega
      have hO : Hid (OwnPr 95 wr w.heap.size v (Se.seen X X.length)) := hA.out.out
      have hB := hid hA.out.bel
      clear hA
      go_wp2_with fail
      go_ret
      exact ⟨_, rfl, hO.out, hB.out⟩

/-- The first k items' last writes, and of the k-th one among the first i operations. -/
def itm (X : List Rn.Op) (k i : Nat) : Nat → Int := fun s => if s = k then wrN (wrI X X.length (k : Int) i) else upTo (Se.lstN X) k s
theorem itm_start (X : List Rn.Op) (k : Nat) : (fun s => if s = k then (-1 : Int) else upTo (Se.lstN X) k s) = itm X k 0 := rfl
theorem itm_end (X : List Rn.Op) (k : Nat) : itm X k X.length = upTo (Se.lstN X) (k + 1) := by
  rw [upTo_next]
  rfl
theorem itm_hit {X : List Rn.Op} {k i : Nat} (h : wrI X X.length (k : Int) (i + 1) = some i) : itm X k (i + 1) = fun s => if s = k then (i : Int) else itm X k i s := by
  funext s
  unfold itm
  rw [h]
  by_cases e : s = k
  · rw [if_pos e, if_pos e]; rfl
  · rw [if_neg e, if_neg e, if_neg e]
theorem itm_miss {X : List Rn.Op} {k i : Nat} (h : wrI X X.length (k : Int) (i + 1) = wrI X X.length (k : Int) i) : itm X k (i + 1) = itm X k i := by
  unfold itm; rw [h]
attribute [local go_sem ↓] loadI_pre storeI_pre

set_option maxHeartbeats 8000000 in
theorem rlast_any (w : World) (a : Option Addr) (c : Nat) (X : List Rn.Op) (h : OpAt w a X) (hv : Rn.check X = 0) :
    Calls Try.prog 49 #[.slice a X.length c] w fun e w' => e = .returned (.agg (iA (Se.lstN X))) ∧ Below w.heap.size w w' := by
  have H := hid h
  have lx := (Rn.check_zero hv).1
  have HC := hid hv
  have KH := hid fun W t h => rhas_any W a c X t 4 h (by omega)
  have hz := (zero_of_info twenty_info).1
  clear hv h
  have A0 : ∀ T1 T2, Hid (LsAt w ((w.alloc (.cells (iA fun _ => 0) T1)).alloc (.cells (iA fun _ => 0) T2)) (upTo (Se.lstN X) 0)) := fun T1 T2 => by
    refine ⟨(ArrAt.new w _ _).below (bx _ _), ?_, bx2 _ _ _⟩
    have := ArrAt.new (w.alloc (.cells (iA fun _ => 0) T1)) (iA fun _ => 0) T2
    rwa [show (w.alloc (.cells (iA fun _ => 0) T1)).heap.size = w.heap.size + 1 by simp] at this
  go_enter Try.func49, Try.ntmps49
  go_wp2_with fail
  go_loopw [4, 5, 6, 7, 13, 14] (fun _ _ _ i _ _ wr => ∃ k : Nat, k ≤ 20 ∧ i = .int .i64 (k : Int) ∧ Hid (LsAt w wr (upTo (Se.lstN X) k))) (fun _ _ _ i _ _ _ => 20 - (intOf i).toNat)
  case atStart => exact ⟨0, Nat.zero_le _, rfl, A0 _ _⟩
  case round =>
    clear A0
    obtain ⟨k, hk, rfl, hA⟩ := hrel
    by_cases hlt : k < 20
    rotate_left
    · obtain rfl : k = 20 := by omega
      have hl := run_loadI hA.out.arr
      have hs := run_storeI (f := upTo (Se.lstN X) 20) hA.out.res
      have F := hid hA.out.fin
      rw [upTo_all] at hl hs F
      clear hA
      go_wp2_with fail
      exact bodyPost_ret (ArrAt.result1 F.out.1 rfl rfl Try.underlying90 rfl (by rw [iA_size]; exact (zero_of_info twenty_info).2)) rfl ⟨rfl, F.out.2⟩
    have k0 : (0 : Int) ≤ (k : Int) := by omega
    have k1 : (k : Int) < 20 := by omega
    have A1 : Hid (LsAt w (wr.setCell ⟨w.heap.size + 1, k, none⟩ (.int .i64 (-1))) (itm X k 0)) := by rw [← itm_start]; exact hA.out.lay k (-1)
    have sp : wr.cell? ⟨w.heap.size + 1, k, none⟩ = some (.int .i64 (upTo (Se.lstN X) k k)) := hA.out.arr.cell (iA_at _ hlt)
    have sf : wr.frozen? ⟨w.heap.size + 1, k, none⟩ = false := hA.out.arr.fz _
    clear hA
    go_wp2_with fail
    clear sp sf
    go_loopw [5, 6, 14] (fun _ _ i wr => ∃ j : Nat, j ≤ X.length ∧ i = .int .i64 (j : Int) ∧ Hid (LsAt w wr (itm X k j))) (fun _ _ i _ => X.length - (intOf i).toNat)
    case atStart => exact ⟨0, Nat.zero_le _, rfl, A1⟩
    case round =>
      clear A1
      obtain ⟨j, hj, rfl, hA⟩ := hrel
      by_cases hjl : j < X.length
      rotate_left
      · obtain rfl : j = X.length := by omega
        have hF : Hid (LsAt w wr (upTo (Se.lstN X) (k + 1))) := by rw [← itm_end]; exact hA
        clear hA
        go_wp2_with fail
        go_roundw
        case rel => first
          | exact ⟨k + 1, by omega, by go_num, hF⟩
          | ((repeat apply Exists.intro); exact ⟨⟨k + 1, by omega, by go_num, hF⟩, rfl⟩)
        case measure => simp [intOf]; omega
      obtain ⟨x, hx⟩ : ∃ x, X[j]? = some x := ⟨_, List.getElem?_eq_getElem hjl⟩
      obtain ⟨b, o, rfl, d1, d2, d3⟩ := (H.out.below hA.out.bel) j x hx
      have j0 : (0 : Int) ≤ (j : Int) := by omega
      have j1 : (j : Int) < (X.length : Int) := by omega
      have g := Rn.good_at HC.out hx
      have g0 := g.x0
      have g1 := g.x1
      have HH := hid (fun h => itm_hit (k := k) (wrI_hit (j := X.length) (it := (k : Int)) hx h))
      have HM := hid (fun h => itm_miss (k := k) (wrI_miss (j := X.length) (it := (k : Int)) hx h))
      clear hx g
      obtain ⟨qx, qk, qi⟩ := x
      simp only at d1 d2 d3 g0 g1
      obtain ⟨t, rfl⟩ : ∃ t : Nat, qx = (t : Int) := ⟨qx.toNat, by omega⟩
      have hme := mem_end HC.out (i := X.length) (t := t) (by omega) (c := 4) (.inr rfl)
      have KH := hid fun W h => KH.out W (t : Int) h
      have hisW : Hid (isW X X.length (k : Int) ⟨(t : Int), qk, qi⟩ = (decide (qk = 2) && decide (qi = (k : Int)) && !decide ((⟨(t : Int), 4, 0⟩ : Rn.Op) ∈ X))) := by
        rw [List.take_length] at hme
        show isW X X.length (k : Int) ⟨(t : Int), qk, qi⟩ = _
        rw [show ((⟨(t : Int), 4, 0⟩ : Rn.Op)) = ⟨(t : Int), ((4 : Nat) : Int), 0⟩ from rfl, hme, isW, List.take_length]; rfl
      clear hme
      obtain ⟨B, hB⟩ : ∃ B, B = isW X X.length (k : Int) ⟨(t : Int), qk, qi⟩ := ⟨_, rfl⟩
      obtain ⟨D, hD⟩ : ∃ D, D = decide ((⟨(t : Int), 4, 0⟩ : Rn.Op) ∈ X) := ⟨_, rfl⟩
      rw [← hB] at HH HM hisW
      rw [← hD] at hisW KH
      clear hB hD g0 g1
      obtain ⟨f, hf⟩ : ∃ f, f = itm X k j := ⟨_, rfl⟩
      rw [← hf] at hA HH HM
      clear hf
      have A2 : ∀ o1 : Obj, Hid (LsAt w (wr.alloc o1) f) := fun o1 => hA.out.below (bx _ _)
      clear hA
      by_cases c1 : qk = 2
      rotate_left
      · have HF : Hid (itm X k (j + 1) = f) := HM.out (by rw [hisW.out, decide_eq_false c1]; simp)
        have c1B : (qk == 2) = false := by simpa using c1
        clear c1 HH HM hisW
        go_wp2_with fail
        go_roundw
        case rel => exact ⟨j + 1, by omega, by go_num, by rw [HF.out]; exact A2 _⟩
        case measure => simp [intOf]; omega
      by_cases c2 : qi = (k : Int)
      rotate_left
      · have HF : Hid (itm X k (j + 1) = f) := HM.out (by rw [hisW.out, decide_eq_false c2]; simp)
        have c1B : (qk == 2) = true := by simpa using c1
        have c2B : (qi == (k : Int)) = false := by simpa using c2
        clear c1 c2 HH HM hisW
        go_wp2_with fail
        go_roundw
        case rel => exact ⟨j + 1, by omega, by go_num, by rw [HF.out]; exact A2 _⟩
        case measure => simp [intOf]; omega
      have c1B : (qk == 2) = true := by simpa using c1
      have c2B : (qi == (k : Int)) = true := by simpa using c2
      have hisW2 : Hid (B = !D) := by show _ = _; rw [hisW.out, decide_eq_true c1, decide_eq_true c2]; simp
      clear c1 c2 hisW
      go_wp2_with fail
      refine (KH.out _ (H.out.below (A2 _).out.bel)).mono ?_
      rintro r w3 ⟨rfl, hb3⟩
      have A3 : Hid (LsAt w w3 f) := (A2 _).out.below hb3
      clear hb3 A2 KH
      cases D with
      | true =>
        have HF : Hid (itm X k (j + 1) = f) := HM.out hisW2.out
        clear HH HM hisW2
        go_wp2_with fail
        go_roundw
        case rel => exact ⟨j + 1, by omega, by go_num, by rw [HF.out]; exact A3⟩
        case measure => simp [intOf]; omega
      | false =>
        have HF : Hid (itm X k (j + 1) = fun s => if s = k then (j : Int) else f s) := HH.out hisW2.out
        have A4 : Hid (LsAt w (w3.setCell ⟨w.heap.size + 1, k, none⟩ (.int .i64 (j : Int))) (itm X k (j + 1))) := by rw [HF.out]; exact A3.out.lay k (j : Int)
        have sp : w3.cell? ⟨w.heap.size + 1, k, none⟩ = some (.int .i64 (f k)) := A3.out.arr.cell (iA_at _ hlt)
        have sf : w3.frozen? ⟨w.heap.size + 1, k, none⟩ = false := A3.out.arr.fz _
        clear HH HM hisW2 HF A3
        go_wp2_with fail
        go_roundw
        case rel => exact ⟨j + 1, by omega, by go_num, A4⟩
        case measure => simp [intOf]; omega
end Go.Proofs.Ytlalpahfoafhoab.PSee
