/- quirkeep.SeeSerial, walked: it answers true, and nothing that was there has turned. Conditions: how many operations there are, that the capacity is no less. -/
import Derived.Test.YtlalpahfoafhoaiRunSrl
import Derived.Test.YtlalpahfoafhoaiRunTurn
import Derived.Test.YtlalpahfoafhoaiSeeAlk
import Derived.Test.YtlalpahfoafhoaiSeeEql
import Derived.BigRegion
namespace Go.Proofs.Ytlalpahfoafhoai.PSee
open Go Go.RowKit PPool PGraph PRun
set_option maxRecDepth 100000

def sX : List Rn.Op := [⟨0, 2, 1⟩, ⟨1, 1, 1⟩]
theorem sX_seen : seenOf sX = [⟨1, 0⟩] ∧ Rn.check sX = 0 := by decide +kernel
theorem ser_bad {X : List Rn.Op} (h : Rn.check X ≠ 0) : serE X = Rn.check X ∧ serL X = [] := by
  unfold serE serL; rw [if_neg h, if_neg h]; exact ⟨rfl, rfl⟩
theorem ser_some {X : List Rn.Op} (h : Rn.check X = 0) {L : List Nat} (ho : Gr.order (Rn.edges X) 12 = some L) : serE X = 0 ∧ serL X = L.filter (Rn.com X) := by
  unfold serE serL Rn.serial; rw [if_pos h, if_pos h, ho]; exact ⟨rfl, rfl⟩
theorem ser_none {X : List Rn.Op} (h : Rn.check X = 0) (ho : Gr.order (Rn.edges X) 12 = none) : serE X = 11 := by
  unfold serE; rw [if_pos h, ho]; rfl
theorem comm_all {X : List Rn.Op} (h : (Rn.comm X).length = X.length) : Rn.comm X = X ∧ ∀ o ∈ X, Rn.com X o.x.toNat = true := by
  have e : Rn.comm X = X := by
    unfold Rn.comm at h ⊢
    exact List.filter_eq_self.2 fun o ho => (List.length_filter_eq_length_iff.1 h) o ho
  refine ⟨e, fun o ho => ?_⟩
  rw [← e] at ho
  exact (Rn.comm_mem.1 ho).2
theorem two_ends (w : World) (T : TypeId) : PgAt (w.alloc (.cells #[.int .i64 1, .int .i64 0] T)) (some ⟨w.heap.size, 0, none⟩) [⟨1, 0⟩] := fun j e hj => by
  obtain ⟨c0, c1⟩ := box2 (Below.refl _ (w.alloc (.cells #[.int .i64 1, .int .i64 0] T)))
  match j, hj with
  | 0, hj => cases hj; exact ⟨_, _, rfl, c0, c1⟩
  | j + 1, hj => cases hj
attribute [local go_sem ↓] loadI_pre storeI_pre
theorem st_last (W : World) (f : Nat → Int) (T : TypeId) : (storeI (.pointer (some ⟨W.heap.size, 0, none⟩)) (.agg (iA f))).run Try.prog (W.alloc (.cells (iA fun _ => 0) T)) = .ok () (W.alloc (.cells (iA f) T)) := by
  have e := World.setRow_alloc_new W (iA fun _ => 0) (iA f) T
  rw [← e]
  exact run_storeI (ArrAt.new W _ T)
/-- What is known of an item's last writes in two runs that show the same. -/
theorem last_two {X Y : List Rn.Op} (hX : ∀ o ∈ X, 0 ≤ o.x) (hY : ∀ o ∈ Y, 0 ≤ o.x) (h : Se.alike X Y = true) {i : Nat} (hi : i < 20) :
    (Se.lstN X i < 0 ∧ Se.lstN Y i < 0) ∨ ∃ (p q : Nat) (o u : Rn.Op), Se.lstN X i = (p : Int) ∧ Se.lstN Y i = (q : Int) ∧ X[p]? = some o ∧ Y[q]? = some u ∧ o.x = u.x := by
  obtain ⟨h1, h2⟩ := Se.alike_last hX hY h hi
  cases hp : Se.lst X i with
  | none =>
    have : Se.lstN X i < 0 := by unfold Se.lstN; rw [hp]; decide
    exact .inl ⟨this, h1.1 this⟩
  | some p =>
    cases hq : Se.lst Y i with
    | none =>
      have : Se.lstN Y i < 0 := by unfold Se.lstN; rw [hq]; decide
      exact .inl ⟨h1.2 this, this⟩
    | some q =>
      obtain ⟨o, ho, _⟩ := Se.wrI_at hp
      obtain ⟨u, hu, _⟩ := Se.wrI_at hq
      exact .inr ⟨p, q, o, u, by unfold Se.lstN; rw [hp]; rfl, by unfold Se.lstN; rw [hq]; rfl, ho, hu, h2 p q o u hp hq ho hu⟩

set_option maxHeartbeats 8000000 in
theorem seeserial_walk (w : World) (a : Option Addr) (c : Nat) (X : List Rn.Op) (h : OpAt w a X) (hl : X.length * 24 ≤ 140737488351232) (hcap : X.length ≤ c) :
    Calls Try.prog 7 #[.slice a X.length c] w fun e w' => e = .returned (.bool true) ∧ Below w.heap.size w w' := by
  have H := hid h
  have KO := hid fun W x k i => op_any W x k i
  have K1 := hid fun W b h => reads_any W b 2 sX h (by decide) (by decide)
  rw [sX_seen.1, sX_seen.2] at K1
  have KE := hid fun W a1 a2 c1 c2 h1 h2 => equalS_any W a1 a2 c1 c2 [⟨1, 0⟩] [⟨1, 0⟩] h1 h2 (by decide) (by decide)
  have K2 := hid fun W h => serial_any W a c X h (by omega) hcap
  have K3 := hid fun W h => comm_any W a c X h (by omega)
  clear h
  go_enter Try.func7, Try.ntmps7
  go_wp2_with fail
  refine (KO.out w 0 2 1).mono ?_
  rintro r w1 ⟨rfl, hb1⟩
  have B1 := hid hb1
  clear hb1
  go_wp2_with fail
  refine (KO.out w1 1 1 1).mono ?_
  rintro r w2 ⟨rfl, hb2⟩
  have B2 : Hid (Below w.heap.size w w2) := below_tr B1.out hb2
  clear hb2 B1 KO
  go_wp2_with fail
  refine (K1.out _ _ (row_at w2 sX _ _ rfl)).mono ?_
  rintro r w5 ⟨v5, rfl, ho5, hb5⟩
  have B5 : Hid (Below w.heap.size w w5) := below_tr B2.out (below_tr (bx _ _) hb5)
  obtain ⟨a5, c5, rfl, hp5, -⟩ := ho5.at_
  have P5 := hid hp5
  clear hb5 B2 K1 ho5 hp5
  go_wp2_with fail
  refine (KE.out _ a5 (some ⟨w5.heap.size, 0, none⟩) c5 1 (P5.out.below (bx _ _)) (two_ends _ _)).mono ?_
  rintro r w6 ⟨rfl, hb6⟩
  have B6 : Hid (Below w.heap.size w w6) := below_tr B5.out (below_tr (bx _ _) hb6)
  clear hb6 P5 B5 KE
  go_wp2_with fail
  refine (K2.out _ (H.out.below B6.out)).mono ?_
  rintro r w7 ⟨v7, rfl, ho7, hb7⟩
  have B7 : Hid (Below w.heap.size w w7) := below_tr B6.out hb7
  obtain ⟨a7, c7, rfl, hp7, -⟩ := ho7.at_
  have P7 := hid hp7
  clear hb7 B6 K2 ho7 hp7
  by_cases hv : Rn.check X = 0
  rotate_left
  · obtain ⟨e1, e2⟩ := ser_bad hv
    rw [e1, e2]
    generalize Rn.check X = v at *
    have hv0 : (v != 0) = true := by simpa using hv
    clear hv e1 e2 P7
    go_wp2_with fail
    go_ret
    exact ⟨rfl, B7.out⟩
  have lx := (Rn.check_zero hv).1
  have gX : ∀ o ∈ X, 0 ≤ o.x := fun o ho => (Rn.good_mem hv ho).x0
  cases ho : Gr.order (Rn.edges X) 12 with
  | none =>
    have e1 := ser_none hv ho
    rw [e1]
    clear hv ho P7 e1 gX
    go_wp2_with fail
    go_ret
    exact ⟨rfl, B7.out⟩
  | some L =>
    obtain ⟨e1, e2⟩ := ser_some hv ho
    rw [e2] at P7 ⊢
    rw [e1]
    have hm := commF_comm hv
    rw [hm] at K3
    clear hm e1 e2
    obtain ⟨S, hS⟩ : ∃ S, S = L.filter (Rn.com X) := ⟨_, rfl⟩
    obtain ⟨q1, q2⟩ := Rn.serial_like hv ho
    have hnd : (L.filter (Rn.com X)).Nodup := (Gr.order_some ho).1.nd.sublist List.filter_sublist
    have hll : (L.filter (Rn.com X)).length ≤ 12 := by
      have := List.length_filter_le (Rn.com X) L
      have := (Gr.order_some ho).2
      omega
    rw [← hS] at P7 q1 q2 hnd hll ⊢
    clear hS ho
    by_cases hlen : (Rn.comm X).length = X.length
    rotate_left
    · have hB : (((Rn.comm X).length : Int) != (X.length : Int)) = true := by simp; omega
      clear q1 q2 hlen P7
      go_wp2_with fail
      refine (K3.out _ (H.out.below B7.out)).mono ?_
      rintro r w8 ⟨v8, rfl, ho8, hb8⟩
      have B8 : Hid (Below w.heap.size w w8) := below_tr B7.out hb8
      obtain ⟨a8, c8, rfl, -⟩ := ho8.at_
      clear hb8 ho8
      go_wp2_with fail
      go_ret
      exact ⟨rfl, B8.out⟩
    have hB : (((Rn.comm X).length : Int) != (X.length : Int)) = false := by simp; omega
    obtain ⟨hcm, hcom⟩ := comm_all hlen
    rw [hcm] at q1 q2
    have hal : Se.alike X (Rn.turn X S) = true := Se.like_alike hv q1 (Se.com_still hv hcom)
    have ly := (Rn.check_zero q2).1
    have gY : ∀ o ∈ Rn.turn X S, 0 ≤ o.x := fun o ho => (Rn.good_mem q2 ho).x0
    have KT := hid fun W b d h1 h2 => turn_any W a b c d X S h1 h2 (by omega) hnd (by omega)
    obtain ⟨Y, hY⟩ : ∃ Y, Y = Rn.turn X S := ⟨_, rfl⟩
    rw [← hY] at hal q2 ly gY KT
    have f1 : alikeB X Y = true := by unfold alikeB; rw [if_pos hv, if_pos q2, hal]
    have f2 : alikeE X Y = 0 := by unfold alikeE; rw [if_pos hv, q2]
    have KA := hid fun W b d h1 h2 h3 => alike_any W a b c d X Y h1 h2 (by omega) (by omega) hcap h3
    rw [f1, f2] at KA
    have KL := hid fun W h => last_any W a c X h (by omega)
    have KM := hid fun W b d h => last_any W b d Y h (by omega)
    rw [show lastOf X = Se.lstN X by unfold lastOf; rw [if_pos hv], hv] at KL
    rw [show lastOf Y = Se.lstN Y by unfold lastOf; rw [if_pos q2], q2] at KM
    have HL2 := hid fun i hi => last_two gX gY hal (i := i) hi
    have hzI := (zero_of_info twenty_info).1
    clear hv q1 q2 hlen hcm hcom hal gX gY f1 f2 hY hnd
    go_wp2_with fail
    refine (K3.out _ (H.out.below B7.out)).mono ?_
    rintro r w8 ⟨v8, rfl, ho8, hb8⟩
    have B8 : Hid (Below w.heap.size w w8) := below_tr B7.out hb8
    have P8 : Hid (NatsAt w8 a7 S) := P7.out.below hb8
    obtain ⟨a8, c8, rfl, -⟩ := ho8.at_
    clear hb8 ho8 B7 P7 K3
    go_wp2_with fail
    refine (KT.out _ a7 c7 (H.out.below B8.out) P8.out).mono ?_
    rintro r w9 ⟨v9, rfl, ho9, hb9⟩
    have B9 : Hid (Below w.heap.size w w9) := below_tr B8.out hb9
    obtain ⟨a9, c9, rfl, hp9, -, hc9, -⟩ := ho9.at_
    have P9 := hid hp9
    have KA := hid fun W h1 h2 => KA.out W a9 c9 h1 h2 hc9
    have KM := hid fun W h => KM.out W a9 c9 h
    clear hb9 ho9 hp9 B8 P8 KT hc9
    go_wp2_with fail
    refine (KA.out _ (H.out.below B9.out) P9.out).mono ?_
    rintro r w10 ⟨rfl, hb10⟩
    have B10 : Hid (Below w.heap.size w w10) := below_tr B9.out hb10
    have P10 : Hid (OpAt w10 a9 Y) := P9.out.below hb10
    clear hb10 B9 P9 KA
    go_wp2_with fail
    refine (KL.out _ (H.out.below B10.out)).mono ?_
    rintro r w11 ⟨rfl, hb11⟩
    have st1 := fun T => st_last w11 (Se.lstN X) T
    obtain ⟨M, hM⟩ : ∃ M, M = w11.heap.size := ⟨_, rfl⟩
    have A11 : ∀ T, Hid (ArrAt (w11.alloc (.cells (iA (Se.lstN X)) T)) M (iA (Se.lstN X)) ∧ OpAt (w11.alloc (.cells (iA (Se.lstN X)) T)) a9 Y ∧ Below w.heap.size w (w11.alloc (.cells (iA (Se.lstN X)) T))) := fun T => by
      rw [hM]; exact ⟨ArrAt.new w11 _ T, (P10.out.below hb11).below (bx _ _), below_tr B10.out (below_tr hb11 (bx _ _))⟩
    clear hb11 B10 P10 KL
    go_wp2_with fail
    rw [← hM]
    refine (KM.out _ (A11 _).out.2.1).mono ?_
    rintro r w12 ⟨rfl, hb12⟩
    have st2 := fun T => st_last w12 (Se.lstN Y) T
    obtain ⟨N, hN⟩ : ∃ N, N = w12.heap.size := ⟨_, rfl⟩
    have A12 : ∀ T, Hid (ArrAt (w12.alloc (.cells (iA (Se.lstN Y)) T)) M (iA (Se.lstN X)) ∧ ArrAt (w12.alloc (.cells (iA (Se.lstN Y)) T)) N (iA (Se.lstN Y)) ∧ OpAt (w12.alloc (.cells (iA (Se.lstN Y)) T)) a9 Y ∧ Below w.heap.size w (w12.alloc (.cells (iA (Se.lstN Y)) T))) := fun T => by
      have b := below_tr hb12 (bx w12 (.cells (iA (Se.lstN Y)) T))
      rw [hN]; exact ⟨(A11 _).out.1.below b, ArrAt.new w12 _ T, (A11 _).out.2.1.below b, below_tr (A11 _).out.2.2 b⟩
    clear hb12 KM A11 st1 hM
    go_wp2_with fail
    rw [← hN]
    clear st2 hN
    go_loopw [14, 65] (fun _ i wr => ∃ k : Nat, k ≤ 20 ∧ i = .int .i64 (k : Int) ∧ Hid (ArrAt wr M (iA (Se.lstN X)) ∧ ArrAt wr N (iA (Se.lstN Y)) ∧ OpAt wr a9 Y ∧ Below w.heap.size w wr)) (fun _ i _ => 20 - (intOf i).toNat)
    case atStart => exact ⟨0, Nat.zero_le _, rfl, A12 _⟩
    case round =>
      clear A12
      obtain ⟨k, hk, rfl, hA⟩ := hrel
      by_cases hlt : k < 20
      rotate_left
      · obtain rfl : k = 20 := by omega
        have HB := hid hA.out.2.2.2
        clear hA
        go_wp2_with fail
        go_ret
        exact ⟨rfl, HB.out⟩
      have k0 : (0 : Int) ≤ (k : Int) := by omega
      have k1 : (k : Int) < 20 := by omega
      have c1 := hA.out.1.cell (iA_at (Se.lstN X) hlt)
      have c2 := hA.out.2.1.cell (iA_at (Se.lstN Y) hlt)
      have A2 : Hid (ArrAt wr.drew M (iA (Se.lstN X)) ∧ ArrAt wr.drew N (iA (Se.lstN Y)) ∧ OpAt wr.drew a9 Y ∧ Below w.heap.size w wr.drew) := ⟨hA.out.1.drew, hA.out.2.1.drew, hA.out.2.2.1.drew, hA.out.2.2.2.drew⟩
      rcases HL2.out k hlt with ⟨n1, n2⟩ | ⟨p, q, o, u, e1, e2, hp, hq, hx⟩
      · generalize Se.lstN X k = z1 at *
        generalize Se.lstN Y k = z2 at *
        have m1 : decide (z1 < 0) = true := decide_eq_true n1
        have m2 : decide (z2 < 0) = true := decide_eq_true n2
        have m3 : decide (0 ≤ z1) = false := decide_eq_false (by omega)
        clear hA n1 n2
        go_wp2_with fail
        go_region
        all_goals
          go_wp2_with fail
          go_roundw
          case rel => exact ⟨k + 1, by omega, by go_num, A2⟩
          case measure => simp [intOf]; omega
      · rw [e1] at c1
        rw [e2] at c2
        obtain ⟨b1, o1, rfl, d1, -⟩ := (H.out.below hA.out.2.2.2) p o hp
        obtain ⟨b2, o2, rfl, d2, -⟩ := hA.out.2.2.1 q u hq
        have p1 := (List.getElem?_eq_some_iff.1 hp).1
        have q1 := (List.getElem?_eq_some_iff.1 hq).1
        rw [← hx] at d2
        obtain ⟨ox, ok, oi⟩ := o
        simp only at d1 d2
        have p0 : (0 : Int) ≤ (p : Int) := by omega
        have q0 : (0 : Int) ≤ (q : Int) := by omega
        have p2 : (p : Int) < (X.length : Int) := by omega
        have q2 : (q : Int) < (Y.length : Int) := by omega
        have m1 : decide ((p : Int) < 0) = false := decide_eq_false (by omega)
        have m2 : decide ((q : Int) < 0) = false := decide_eq_false (by omega)
        have m3 : decide ((0 : Int) ≤ (p : Int)) = true := decide_eq_true p0
        clear hA hp hq hx e1 e2 p1 q1
        go_wp2_with fail
        go_region
        all_goals
          go_wp2_with fail
          go_roundw
          case rel => exact ⟨k + 1, by omega, by go_num, A2⟩
          case measure => simp [intOf]; omega
end Go.Proofs.Ytlalpahfoafhoai.PSee
