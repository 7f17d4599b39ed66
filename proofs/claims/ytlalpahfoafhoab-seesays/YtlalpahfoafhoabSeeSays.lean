/- quirlaw.SeeSays, walked: it answers true, and nothing that was there has turned. Conditions: how many operations there are, that the capacity is no less. -/
import Derived.Test.YtlalpahfoafhoabRunRErr
import Derived.Test.YtlalpahfoafhoabSeeRRd
import Derived.Test.YtlalpahfoafhoabSeeEq
import Derived.Test.YtlalpahfoafhoabSeeEql
import Derived.Deep.RegionHeld3
namespace Go.Proofs.Ytlalpahfoafhoab.PSee
open Go Go.RowKit PPool PGraph PRun
set_option maxRecDepth 100000

attribute [local go_sem ↓] loadI_pre storeI_pre
theorem st_lasts (W : World) (f : Nat → Int) (T : TypeId) : (storeI (.pointer (some ⟨W.heap.size, 0, none⟩)) (.agg (iA f))).run Try.prog (W.alloc (.cells (iA fun _ => 0) T)) = .ok () (W.alloc (.cells (iA f) T)) := by
  have e := World.setRow_alloc_new W (iA fun _ => 0) (iA f) T
  rw [← e]
  exact run_storeI (ArrAt.new W _ T)
theorem last_wf {X : List Rn.Op} (hl : X.length ≤ 200) (i : Nat) : (Lit.int .i64 (Se.lstN X i)).wf = true := by
  have h1 := Se.wrN_lo (Se.lst X i)
  have h2 : Se.lstN X i < X.length := Se.wrN_hi (X := X) (j := X.length) (it := (i : Int)) (k := X.length) (by omega)
  have h1 : -1 ≤ Se.lstN X i := h1
  exact WalkArith.wf_i64 (by omega)

set_option maxHeartbeats 8000000 in
theorem seesays_walk (w : World) (a : Option Addr) (c : Nat) (X : List Rn.Op) (h : OpAt w a X) (hl : X.length ≤ 9223372036854775807) (hcap : X.length ≤ c) :
    Calls Try.prog 7 #[.slice a X.length c] w fun e w' => e = .returned (.bool true) ∧ Below w.heap.size w w' := by
  have H := hid h
  have K1 := hid (rerr_any w a c X h hl hcap)
  have K2 := hid fun W h => reads_any W a c X h hl hcap
  have K3 := hid fun W h => last_any W a c X h hl
  have hzI := (zero_of_info twenty_info).1
  obtain ⟨f, hf⟩ : ∃ f, f = lastOf X := ⟨_, rfl⟩
  obtain ⟨L, hL⟩ : ∃ L, L = seenOf X := ⟨_, rfl⟩
  rw [← hf] at K3
  rw [← hL] at K2
  have HF := hid hf
  have HL := hid hL
  obtain ⟨v, hv⟩ : ∃ v, v = Rn.check X := ⟨_, rfl⟩
  rw [← hv] at K1 K2 K3
  have HV := hid hv
  clear hf hL hv h
  go_enter Try.func7, Try.ntmps7
  go_wp2_with fail
  refine (K1.out).mono ?_
  rintro r w1 ⟨rfl, hb1⟩
  have B1 := hid hb1
  clear hb1 K1
  go_wp2_with fail
  refine (K2.out _ (H.out.below B1.out)).mono ?_
  rintro r w2 ⟨v2, rfl, ho2, hb2⟩
  have B2 : Hid (Below w.heap.size w w2) := below_tr B1.out hb2
  obtain ⟨a2, c2, rfl, hp2, -⟩ := ho2.at_
  have P2 := hid hp2
  clear hb2 B1 K2 ho2 hp2
  go_wp2_with fail
  refine (K3.out _ (H.out.below B2.out)).mono ?_
  rintro r w3 ⟨rfl, hb3⟩
  have st := fun T => st_lasts w3 f T
  obtain ⟨M, hM⟩ : ∃ M, M = w3.heap.size := ⟨_, rfl⟩
  obtain ⟨W4, hW4⟩ : ∃ W4, W4 = w3.alloc (.cells (iA f) 90) := ⟨_, rfl⟩
  have A4 : Hid (ArrAt W4 M (iA f) ∧ PgAt W4 a2 L ∧ Below w.heap.size w W4) := by
    rw [hW4, hM]; exact ⟨ArrAt.new w3 _ _, (P2.out.below hb3).below (bx _ _), below_tr B2.out (below_tr hb3 (bx _ _))⟩
  clear hb3 P2 B2 K3
  by_cases h0 : v = 0
  rotate_left
  · have hv0 : (v != 0) = true := by simpa using h0
    have hX : Rn.check X ≠ 0 := by rw [← HV.out]; exact h0
    obtain rfl : f = fun _ => 0 := by rw [HF.out]; unfold lastOf; rw [if_neg hX]
    obtain rfl : L = [] := by rw [HL.out]; unfold seenOf; rw [if_neg hX]
    have heq := ints_same (f := fun _ => 0) (f' := fun _ => 0) (fun _ _ => by decide) (fun _ _ => by decide) (fun _ _ => rfl) W4
    have hl4 := run_loadI A4.out.1
    clear hX h0 HV
    simp only [List.length_nil]
    go_upto_region 4 with fail
    rw [← hW4, ← hM]
    clear hW4 hM st
    go_wp2_with fail
    go_ret
    exact ⟨rfl, A4.out.2.2⟩
  have hX : Rn.check X = 0 := by rw [← HV.out]; exact h0
  subst h0
  have lx := (Rn.check_zero hX).1
  obtain rfl : f = Se.lstN X := by rw [HF.out]; unfold lastOf; rw [if_pos hX]
  obtain rfl : L = Se.seen X X.length := by rw [HL.out]; unfold seenOf; rw [if_pos hX]
  have hsl : (Se.seen X X.length).length ≤ 200 := by rw [Se.seen_len]; have := Se.rds_len X X.length; omega
  have K4 := hid fun W h => rreads_any W a c X h hX hcap
  have K5 := hid fun W h => rlast_any W a c X h hX
  have KE := hid fun W b d h1 h2 => equalS_any W a2 b c2 d (Se.seen X X.length) (Se.seen X X.length) h1 h2 (by omega) (by omega)
  have heq := fun W => ints_same (f := Se.lstN X) (f' := Se.lstN X) (fun i _ => last_wf lx i) (fun i _ => last_wf lx i) (fun _ _ => rfl) W
  generalize Se.seen X X.length = L at *
  rw [decide_eq_true rfl] at KE
  obtain ⟨cs, hcs⟩ : ∃ cs, cs = (iA (Se.lstN X)).toList := ⟨_, rfl⟩
  have hZ : iA (Se.lstN X) = cs.toArray := by rw [hcs]
  have hu := Try.underlying90
  have hinfo : (Try.prog.info? 90).map (·.size) = some cs.length := by rw [hcs, Array.length_toList, iA_size]; exact (zero_of_info twenty_info).2
  have SB : Hid (∀ W, Below W4.heap.size W4 W → W.rangeAt M 0 cs) := fun W hW => by rw [hcs]; exact (A4.out.1.below hW).range
  rw [hZ] at K5 heq st hW4 A4 ⊢
  clear hcs hZ hX HV HF HL
  go_upto_region 4 with fail
  rw [← hW4, ← hM]
  clear hW4 hM st
  go_upto_region 6 with fail
  go_region_held3 (fun W => W.rangeAt M 0 cs)
    ((refine SB.out _ ?_; first | exact B7.out | exact B6.out | exact B5.out | repeat (first | exact Below.refl _ _ | refine Below.drew ?_)))
    ((first | (go_at_call 48; refine (K4.out _ (H.out.below A4.out.2.2.drew)).mono ?_; rintro r w5 ⟨v5, rfl, ho5, hb5⟩; have B5 : Hid (Below W4.heap.size W4 w5) := below_tr (Below.refl _ _).drew hb5; obtain ⟨a5, c5, rfl, hp5, -⟩ := ho5.at_; clear hb5 ho5) | (go_at_call 47; refine (KE.out _ a5 c5 (A4.out.2.1.below B5.out) hp5).mono ?_; rintro r w6 ⟨rfl, hb6⟩; have B6 : Hid (Below W4.heap.size W4 w6) := below_tr B5.out hb6; clear hb6) | (go_at_call 49; refine (K5.out _ (H.out.below (below_tr A4.out.2.2 B6.out))).mono ?_; rintro r w7 ⟨rfl, hb7⟩; have B7 : Hid (Below W4.heap.size W4 w7) := below_tr B6.out hb7; clear hb7)))
  all_goals
    go_wp2_with fail
    go_ret
    exact ⟨rfl, below_tr A4.out.2.2 B7.out⟩
end Go.Proofs.Ytlalpahfoafhoab.PSee
