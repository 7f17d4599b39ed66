/- quirref.clash, has, RunErr, those, walked: each answers what the plain words say, and nothing that was there has turned. Conditions: the operations lie where their slice says; clash: they are right ones. -/
import Derived.Test.YtlhkkhojfndoiabRunHas
import Derived.Test.YtlhkkhojfndoiabRunSrl
import Derived.Test.YtlhkkhojfndoiabRunAll
namespace Go.Proofs.Ytlhkkhojfndoiab.PRun
open Go Go.RowKit PPool PGraph
set_option maxRecDepth 100000

theorem clash_same {p q : Rn.Op} (h : p.x = q.x) : Rn.clash p q = false := by
  apply Bool.eq_false_iff.2
  intro hc
  exact Rn.clash_ne hc h
set_option maxHeartbeats 2000000 in
theorem rclash_any (w : World) (p q : Rn.Op) (gp : Rn.Good p) (gq : Rn.Good q) :
    Calls Try.prog 74 #[.agg #[.int .i64 p.x, .int .i64 p.k, .int .i64 p.i], .agg #[.int .i64 q.x, .int .i64 q.k, .int .i64 q.i]] w fun e w' => e = .returned (.bool (Rn.clash p q)) ∧ Below w.heap.size w w' := by
  obtain ⟨Y, hY⟩ : ∃ Y, Y = Rn.clash p q := ⟨_, rfl⟩
  rw [← hY]
  have hb0 := fun a b => hid (bx2 w a b)
  by_cases c1 : p.x = q.x
  · have HYf : Hid (Y = false) := hY.trans (clash_same c1)
    obtain ⟨px, pk, pi⟩ := p
    obtain ⟨qx, qk, qi⟩ := q
    simp only at c1
    subst c1
    clear hY
    go_enter Try.func74, Try.ntmps74
    go_wp2_with fail
    go_ret
    exact ⟨by rw [HYf.out]; rfl, (hb0 _ _).out⟩
  have HY := hid (hY.trans (Rn.clash_sum gp gq c1))
  have g1 := gp.k0
  have g2 := gp.k1
  have g3 := gq.k0
  have g4 := gq.k1
  obtain ⟨px, pk, pi⟩ := p
  obtain ⟨qx, qk, qi⟩ := q
  simp only at c1 HY g1 g2 g3 g4
  have c1n : (px != qx) = true := by simpa using c1
  clear hY c1 gp gq
  by_cases c2 : pi = qi
  rotate_left
  · have HYf : Hid (Y = false) := by show Y = false; rw [HY.out, decide_eq_false c2]; simp
    have c2B : (pi == qi) = false := by simpa using c2
    clear HY c2
    go_enter Try.func74, Try.ntmps74
    go_wp2_with fail
    go_ret
    exact ⟨by rw [HYf.out]; rfl, (hb0 _ _).out⟩
  subst c2
  by_cases c3 : pk ≤ 2
  rotate_left
  · have HYf : Hid (Y = false) := by show Y = false; rw [HY.out, decide_eq_false c3]; simp
    clear HY
    go_enter Try.func74, Try.ntmps74
    go_wp2_with fail
    go_ret
    exact ⟨by rw [HYf.out]; rfl, (hb0 _ _).out⟩
  by_cases c4 : qk ≤ 2
  rotate_left
  · have HYf : Hid (Y = false) := by show Y = false; rw [HY.out, decide_eq_false c4]; simp
    clear HY
    go_enter Try.func74, Try.ntmps74
    go_wp2_with fail
    go_ret
    exact ⟨by rw [HYf.out]; rfl, (hb0 _ _).out⟩
  by_cases c5 : 2 < pk + qk
  · have HYf : Hid (Y = true) := by show Y = true; rw [HY.out, decide_eq_true c3, decide_eq_true c4, decide_eq_true c5]; simp
    clear HY
    go_enter Try.func74, Try.ntmps74
    go_wp2_with fail
    go_ret
    exact ⟨by rw [HYf.out]; rfl, (hb0 _ _).out⟩
  · have HYf : Hid (Y = false) := by show Y = false; rw [HY.out, decide_eq_false c5]; simp
    clear HY
    go_enter Try.func74, Try.ntmps74
    go_wp2_with fail
    go_ret
    exact ⟨by rw [HYf.out]; rfl, (hb0 _ _).out⟩

/-- Has a transaction ended so? -/
theorem rhas_any (w : World) (a : Option Addr) (c : Nat) (X : List Rn.Op) (t k : Int) (h : OpAt w a X) (hl : X.length ≤ 9223372036854775807) :
    Calls Try.prog 73 #[.slice a X.length c, .int .i64 t, .int .i64 k] w fun e w' => e = .returned (.bool (decide ((⟨t, k, 0⟩ : Rn.Op) ∈ X))) ∧ Below w.heap.size w w' := by
  have KH := hid (has_any w a c X ⟨t, k, 0⟩ h hl)
  generalize decide ((⟨t, k, 0⟩ : Rn.Op) ∈ X) = D at *
  simp only at KH
  clear h
  go_enter Try.func73, Try.ntmps73
  go_wp2_with fail
  refine (KH.out).mono ?_
  rintro r w1 ⟨rfl, hb⟩
  have HB := hid hb
  clear hb
  go_wp2_with fail
  go_ret
  exact ⟨rfl, HB.out⟩
theorem mem_end {X : List Rn.Op} (h : Rn.check X = 0) {i t : Nat} (_ht : t < 12) {c : Nat} (hc : c = 3 ∨ c = 4) : decide ((⟨(t : Int), (c : Int), 0⟩ : Rn.Op) ∈ X.take i) = decide (Rn.ends (X.take i) t = c) := by
  apply Bool.eq_iff_iff.2
  simp only [decide_eq_true_eq]
  constructor
  · intro hm
    obtain ⟨j, hj⟩ := List.getElem?_of_mem hm
    rw [List.getElem?_take] at hj
    split at hj
    · rename_i hji
      have e1 : Rn.ends (X.take (j + 1)) t = c := by
        rw [Rn.take_snoc hj, Rn.ends_snoc]
        unfold Rn.fin
        rw [if_pos ⟨by show (c : Int) = 3 ∨ (c : Int) = 4; omega, rfl⟩]
      exact Rn.ends_more h (c := c) (i := j + 1) (j := i) (by omega) e1 (by omega)
    · cases hj
  · intro he
    obtain ⟨o, ho, h1, h2, _⟩ := Rn.ends_mem he (by omega)
    have g2 := Rn.good_mem h (List.mem_of_mem_take ho)
    have e : o = ⟨(t : Int), (c : Int), 0⟩ := by
      have hi := g2.ki (by omega)
      cases o
      simp only at h1 h2 hi
      simp only [Rn.Op.mk.injEq]
      omega
    rw [← e]; exact ho
theorem mem_all {X : List Rn.Op} (h : Rn.check X = 0) {t : Nat} (ht : t < 12) : decide ((⟨(t : Int), 3, 0⟩ : Rn.Op) ∈ X) = Rn.com X t := by
  have := mem_end h (i := X.length) ht (c := 3) (.inl rfl)
  rw [List.take_length] at this
  exact this

/-! those -/
set_option maxHeartbeats 2000000 in
theorem those_any (w : World) (a : Option Addr) (c : Nat) (L : List Nat) (f : Nat) (caps : Array Value) (P : Nat → Bool) (hent : ∀ (args : Array Value) (W : World), (callFunc f args).run Try.prog W = .ok (.enter f args) W)
    (hP : ∀ W t, t ∈ L → Below w.heap.size w W → Calls Try.prog f (#[.int .i64 (t : Int)] ++ caps) W fun e W' => e = .returned (.bool (P t)) ∧ Below W.heap.size W W') (h : NatsAt w a L) (hl : L.length ≤ 4096) :
    Calls Try.prog 71 #[.slice a L.length c, .func (.func f) #[] caps] w fun e w' => ∃ v, e = .returned v ∧ OwnNats w' w.heap.size v (L.filter P) ∧ Below w.heap.size w w' := by
  have H := hid h
  have HP := hid hP
  obtain ⟨i0, hi, hz0, hz1, hz3⟩ := info_parts int_info3
  clear h hP
  go_enter Try.func71, Try.ntmps71
  go_wp2_with fail
  go_loopw [5, 7, 10] (fun v _ i wr => ∃ (k : Nat) (V : Value), k ≤ L.length ∧ V = v ∧ i = .int .i64 (k : Int) ∧ Hid (OwnNats wr w.heap.size V ((L.take k).filter P)) ∧ Hid (Below w.heap.size w wr)) (fun _ _ i _ => L.length - (intOf i).toNat)
  case atStart => exact ⟨0, _, Nat.zero_le _, rfl, rfl, OwnR.nil _ _, Below.refl _ _⟩
  case round =>
    obtain ⟨k, v, hk, rfl, rfl, hO, hb⟩ := hrel
    by_cases hlt : k < L.length
    · obtain ⟨t, ht⟩ : ∃ t, L[k]? = some t := ⟨_, List.getElem?_eq_getElem hlt⟩
      obtain ⟨b', o', rfl, d1⟩ := (H.out.below hb.out) k t ht
      have k0 : (0 : Int) ≤ (k : Int) := by omega
      have k1 : (k : Int) < (L.length : Int) := by omega
      have HS := hid (nat_step P ht)
      have hlen := List.length_filter_le P (L.take k)
      rw [List.length_take] at hlen
      have KP := hid (HP.out wr t (List.mem_of_getElem? ht) hb.out)
      obtain ⟨Y, hY⟩ : ∃ Y, Y = (L.take k).filter P := ⟨_, rfl⟩
      obtain ⟨D, hD⟩ : ∃ D, D = P t := ⟨_, rfl⟩
      rw [← hY] at hO HS hlen
      rw [← hD] at HS KP
      clear hY hD ht
      go_wp2_with fail
      refine (KP.out).mono ?_
      rintro r w4 ⟨rfl, hb4⟩
      have A4 : Hid (OwnNats w4 w.heap.size v Y ∧ Below w.heap.size w w4) := ⟨hO.out.below hb4, below_tr hb.out hb4⟩
      clear hO hb hb4 d1 KP
      cases D with
      | false =>
        have HF : Hid ((L.take (k + 1)).filter P = Y) := by show _ = _; rw [HS.out, if_neg (by simp)]
        clear HS
        go_wp2_with fail
        go_roundw
        case rel => exact ⟨k + 1, v, by omega, rfl, by go_num, by rw [HF.out]; exact A4.out.1, A4.out.2⟩
        case measure => simp [intOf]; omega
      | true =>
        have HF : Hid ((L.take (k + 1)).filter P = Y ++ [t]) := by show _ = _; rw [HS.out, if_pos rfl]
        have A6 : ∀ o, Hid (OwnNats (w4.alloc o) w.heap.size v Y ∧ Below w.heap.size w (w4.alloc o)) := fun o => ⟨A4.out.1.below (bx _ _), below_tr A4.out.2 (bx _ _)⟩
        clear HS A4
        go_wp2_with (at_builtin; refine wpList_append_own _ rfl _ _ 47 rfl w.heap.size 3 i0 (.int .i64 0) 1 8 Try.underlying47 hi hz0 hz1 hz3 rfl (by decide) _ _ _ rfl (A6 _).out.1 ⟨w4.heap.size, 0, none⟩ 1 1 [nc t] rfl rfl ?c1 ?c2 ?c3 ?c4 ?c5 ?_)
        case c1 =>
          intro q u hu
          rw [Addr.add_mid]
          exact (cell_of_row _ _ _ _ _ _ (heap_alloc_new w4 _)).trans (by simpa using hu)
        case c2 => exact nats_one [t]
        case c3 => unfold maxLen; omega
        case c4 => omega
        case c5 => exact (A6 _).out.2.size
        intro v' w6 ho6 hg6 hnil6
        have A7 : Hid (OwnNats w6 w.heap.size v' ((L.take (k + 1)).filter P)) := by rw [HF.out]; exact OwnR.grows ho6
        have B7 : Hid (Below w.heap.size w w6) := (A6 _).out.2.grown hg6 (A6 _).out.2.size (fun b hb => ((A6 (.cells #[nc t] 3)).out.1.lt b hb).1)
        clear ho6 hg6 hnil6 A6 HF
        go_wp2_with fail
        go_roundw
        case rel => exact ⟨k + 1, v', by omega, rfl, by go_num, A7, B7⟩
        case measure => simp [intOf]; omega
    · obtain rfl : k = L.length := by omega
      have hO2 : Hid (OwnNats wr w.heap.size v (L.filter P)) := by have := hO.out; rwa [List.take_length] at this
      have j3 : decide ((L.length : Int) < (L.length : Int)) = false := by simp
      clear hO
      go_wp2_with fail
      go_ret
      exact ⟨_, rfl, hO2.out, hb.out⟩
theorem hasC_any (w : World) (q : Addr) (a : Option Addr) (c : Nat) (X : List Rn.Op) (t : Int) (hq : w.cell? q = some (.slice a X.length c)) (h : OpAt w a X) (hl : X.length ≤ 9223372036854775807) :
    Calls Try.prog 72 #[.int .i64 t, .pointer (some q)] w fun e w' => e = .returned (.bool (decide ((⟨t, 3, 0⟩ : Rn.Op) ∈ X))) ∧ Below w.heap.size w w' := by
  have KH := hid (rhas_any w a c X t 3 h hl)
  generalize decide ((⟨t, 3, 0⟩ : Rn.Op) ∈ X) = D at *
  clear h
  go_enter Try.func72, Try.ntmps72
  go_wp2_with fail
  refine (KH.out).mono ?_
  rintro r w1 ⟨rfl, hb⟩
  have HB := hid hb
  clear hb
  go_wp2_with fail
  go_ret
  exact ⟨rfl, HB.out⟩
end Go.Proofs.Ytlhkkhojfndoiab.PRun
