/- node's from, in a fence: the entries whose keys are not below the given one, rising, are handed to yield until it says no more. -/
import Derived.Test.YtlefcjgemojhpabTreeSeg
namespace Go.Proofs.Ytlefcjgemojhpab.PTree
open Go Go.RowKit PPool
set_option maxRecDepth 100000
attribute [local go_sem] Oper.semAt_some
/-- What from leaves. -/
def FromTo (b : Nat) (k : Int) (J Jx : List En → World → Prop) (pre0 L : List En) (W : World) (e : Ending) (W' : World) : Prop :=
  (e = .returned (.bool true) ∧ J (pre0 ++ ge k L) W' ∧ Below b W W') ∨ (e = .returned (.bool false) ∧ ∃ q, q <+: ge k L ∧ Jx (pre0 ++ q) W')
theorem FromTo.some {b : Nat} {k : Int} {J Jx : List En → World → Prop} {pre0 L : List En} {W : World} {e : Ending} {W' : World} (h : FromTo b k J Jx pre0 L W e W') :
    ∃ c, e = .returned (.bool c) ∧ (c = true → J (pre0 ++ ge k L) W' ∧ Below b W W') ∧ (c = false → ∃ q, q <+: ge k L ∧ Jx (pre0 ++ q) W') := by
  rcases h with ⟨rfl, h1, h2⟩ | ⟨rfl, h⟩
  · exact ⟨true, rfl, fun _ => ⟨h1, h2⟩, fun e => by cases e⟩
  · exact ⟨false, rfl, (fun e => by cases e), fun _ => h⟩
theorem Mem.low {w w' : World} {o : Lab} {M : Sto} (h : Mem w o M) {b : Nat} (hb : Below b w w') (ho : ∀ q, o q ≠ none → q < b) : Mem w' o M := h.keep (fun k hk => hb.block k (ho k hk)) hb.size
theorem rws_kid {R : Nat → Nd → List Nat → Prop} : ∀ {B : List Nd} {C A : List Nat} {i : Nat} {b : Nd}, Rws R B C A → B[i]? = some b → ∃ c X, C[i]? = some c ∧ R c b X
  | b :: B, c :: C, A, 0, x, h, hx => by
    obtain ⟨X, Y, rfl, hr, _⟩ := h
    simp at hx; subst hx
    exact ⟨c, X, rfl, hr⟩
  | b :: B, c :: C, A, i + 1, x, h, hx => by
    obtain ⟨X, Y, rfl, _, ht⟩ := h
    obtain ⟨d, Z, h1, h2⟩ := rws_kid ht (by simpa using hx)
    exact ⟨d, Z, by simpa using h1, h2⟩
  | [], [], _, i, x, _, hx => by simp at hx
theorem came_kid {h : Nat} {nd : Nd} (hs : Shape h nd) {i : Nat} (hi : i ≤ nd.es.length) : (kidL h nd i).Sublist (lst h nd) := by
  refine List.Sublist.trans ?_ (came_pre (i := i + 1)).sublist
  rw [came_next hs hi]
  exact (List.sublist_append_right _ _).trans (List.sublist_append_left _ _)
theorem kid_len {h : Nat} {nd : Nd} (hs : Shape h nd) (k : Int) {i : Nat} (hi : i ≤ nd.es.length) : ge k (came h nd i) ++ ge k (kidL h nd i) <+: ge k (lst h nd) := by
  refine List.IsPrefix.trans ?_ (ge_pre (came_pre (i := i + 1)))
  rw [came_next hs hi, ge_app, ge_app]
  exact List.prefix_append _ _
theorem own_ce {w : World} {a : Option Addr} {n c : Nat} {X : List En} (h : TE.OwnPg w 0 (.slice a n c) X) : n = X.length := by
  obtain ⟨_, _, e, _⟩ := h.at_
  injection e
theorem hand_from {b l N : Nat} {J Jx : List En → World → Prop} (hJ : ∀ s W W', J s W → Below W.heap.size W W' → J s W')
    (hY : ∀ m pre x W, J pre W → pre.length < N → YieldAt Fence.wide m Try.prog l (yv x) W fun e W' => (e = .returned (.bool true) ∧ J (pre ++ [x]) W' ∧ Below b W W') ∨ (e = .returned (.bool false) ∧ Jx (pre ++ [x]) W'))
    (n : Nat) (x : En) (hx : x.t.size ≤ 140737488355328) (wr : World) (pre : List En) (hj : J pre wr) (hl : pre.length < N) (hb : b ≤ wr.heap.size) :
    CallsIn Fence.wide n Try.prog 64 #[.agg #[.int .i64 x.k, .string x.t], .func (.yield l) #[] #[]] wr fun e W' => ∃ c, e = .returned (.bool c) ∧ (c = true → J (pre ++ [x]) W' ∧ Below b wr W') ∧ (c = false → Jx (pre ++ [x]) W') := by
  refine hand_in n l x hx wr _ (fun W1 h1 => YieldAt.mono (hY (n - 1) pre x W1 (hJ _ _ _ hj h1) hl) fun e W' h => ?_) fun e W' ⟨c, h, _⟩ => ⟨c, h⟩
  rcases h with ⟨rfl, h2, h3⟩ | ⟨rfl, h2⟩
  · exact ⟨true, rfl, fun _ => ⟨h2, (h1.mono hb).trans h3⟩, fun e => by cases e⟩
  · exact ⟨false, rfl, (fun e => by cases e), fun _ => h2⟩
set_option maxHeartbeats 4000000 in
theorem from_in (b l N : Nat) (k : Int) (J Jx : List En → World → Prop) (hJ : ∀ s W W', J s W → Below W.heap.size W W' → J s W')
    (hY : ∀ m pre x W, J pre W → pre.length < N → YieldAt Fence.wide m Try.prog l (yv x) W fun e W' => (e = .returned (.bool true) ∧ J (pre ++ [x]) W' ∧ Below b W W') ∨ (e = .returned (.bool false) ∧ Jx (pre ++ [x]) W')) :
    ∀ (h : Nat) (W : World) (o : Lab) (M : Sto) (p : Nat) (nd : Nd) (A : List Nat) (pre0 : List En) (n : Nat), Mem W o M → (∀ q, o q ≠ none → q < b) → b ≤ W.heap.size → Tr h M p nd A → Shape h nd → Up (lst h nd) → nd.es.length ≤ 2000 → Texts (lst h nd) →
      J pre0 W → (pre0 ++ ge k (lst h nd)).length ≤ N →
      CallsIn Fence.wide n Try.prog 50 #[.pointer (some ⟨p, 0, none⟩), .int .i64 k, .func (.yield l) #[] #[]] W (FromTo b k J Jx pre0 (lst h nd) W) := by
  intro h
  induction h with
  | zero =>
    intro W o M p nd A pre0 n hM ho hbW t hs hu hl hT hj0 hN
    obtain ⟨cs, hp⟩ := t.head
    have hcs := kids_zero t hp
    subst hcs
    have HM := hid hM
    have HO := hid ho
    have HU := hid hu
    have HS := hid hs
    have HT := hid hT
    have HN := hid hN
    have HJ := hid hJ
    have HP := hid hp
    have HY := hid hY
    obtain ⟨ae, ce, ab, cb, op0⟩ := hM.open_ hp
    have KF := hid (callsIn_wide (n := n - 1).2 (find_any W p _ ae ce ab cb op0 (hu.sublist (es_sub hs)) hl k))
    have B0 := hid hbW
    have J0 := hid hj0
    have hpl := pos_le nd.es k
    have HPO : Hid (pos nd.es k ≤ nd.es.length) := hpl
    have HG := hid (ge_low hs hu k)
    obtain ⟨P, hP⟩ : ∃ P, P = pos nd.es k := ⟨_, rfl⟩
    have HPP := hid hP
    clear op0 hM ho hu hT hN hJ hp hY hbW hj0 hpl
    simp only [← hP] at KF
    clear hP
    refine callsIn_of_wp Try.func50 rfl trivial ?_ rfl
    simp only [Try.ntmps50, List.size_toArray, List.length_cons, List.length_nil, Nat.reduceAdd, Nat.reduceSub, Array.replicate_succ, Array.replicate_zero, List.push_toArray, List.append_toArray, List.nil_append, List.cons_append]
    gi_wp2_with fail
    refine ⟨trivial, (fun h => by cases h), KF.out.mono ?_⟩
    rintro e w1 ⟨rfl, hb1⟩
    have B1 := hid hb1
    clear hb1 KF
    gi_wp2_with fail
    gi_loopw [9] (fun v wr => ∃ i : Nat, P ≤ i ∧ i ≤ nd.es.length + 1 ∧ v = .int .i64 (i : Int) ∧ Hid (J (pre0 ++ ge k (came 0 nd i)) wr) ∧ Hid (Below b W wr)) (fun v _ => nd.es.length + 2 - (intOf v).toNat)
    case atStart =>
      have e : ge k (came 0 nd P) = [] := by rw [HPP.out]; exact HG.out
      exact ⟨P, Nat.le_refl _, by have := HPP.out; have := HPO.out; omega, rfl, by rw [e, List.append_nil]; exact HJ.out _ _ _ J0.out B1.out, B1.out.mono B0.out⟩
    case round =>
      obtain ⟨i, hpi, hi, rfl, hj, hb⟩ := hrel
      have HM2 := hid (HM.out.low hb.out HO.out)
      obtain ⟨ae, ce, ab, cb, op⟩ := HM2.out.open_ HP.out
      have c0 := op.at_.c0
      have c1 := op.at_.c1
      have KL := hid (callsIn_wide (n := n - 1).2 (last_any wr p _ ae ce ab cb op))
      have hbw : Hid (b ≤ wr.heap.size) := Nat.le_trans B0.out hb.out.size
      obtain ⟨len, hlen⟩ : ∃ len, len = nd.es.length := ⟨_, rfl⟩
      have HLEN := hid hlen
      simp only [← hlen] at c0 hi hl
      simp only [List.length_nil] at c1
      have i0 : (0 : Int) ≤ (i : Int) := by omega
      have hli : (len : Int) ≤ 2000 := by omega
      by_cases h1 : i < len
      · obtain ⟨e, he⟩ : ∃ e, nd.es[i]? = some e := ⟨_, List.getElem?_eq_getElem (by omega)⟩
        obtain ⟨eb, eo, rfl, d0, d1⟩ := op.ent he
        have hst := ge_step HS.out HU.out k (by rw [← HPP.out]; exact hpi) he
        have hk0 : ge k (kidL 0 nd i) = [] := rfl
        rw [hk0, List.append_nil] at hst
        have HST := hid hst
        have hpre : (pre0 ++ ge k (came 0 nd i)).length < N := by
          have q1 := (ge_pre (k := k) (came_pre (h := 0) (nd := nd) (i := i + 1))).length_le
          have q2 := HN.out
          rw [hst] at q1
          simp only [List.length_append, List.length_cons, List.length_nil] at q1 q2 ⊢
          omega
        have KH := hid (hand_from HJ.out HY.out (n - 1) e (HT.out e ((es_sub HS.out).subset (List.mem_of_getElem? he))) wr _ hj.out hpre hbw.out)
        have i1 : (i : Int) < (len : Int) := by omega
        have i2 : (i : Int) ≤ (len : Int) := by omega
        obtain ⟨ek, et⟩ := e
        simp only at d0 d1 KH
        clear op he hst hk0 hpre hlen
        gi_wp2_with fail
        refine ⟨trivial, (fun h => by cases h), KL.out.mono ?_⟩
        rintro e w2 ⟨rfl, rfl⟩
        gi_wp2_with fail
        refine ⟨trivial, ?_⟩
        gi_wp2_with fail
        refine ⟨trivial, (fun h => by cases h), KH.out.mono ?_⟩
        rintro e w3 ⟨c, rfl, hc1, hc2⟩
        have HC1 := hid hc1
        have HC2 := hid hc2
        clear hc1 hc2 KH
        cases c with
        | true =>
          gi_wp2_with fail
          have e1 := HLEN.out
          exact ⟨⟨i + 1, by omega, by omega, by go_num, by rw [HST.out, ← List.append_assoc]; exact (HC1.out (by simp)).1, hb.out.trans (HC1.out (by simp)).2⟩, by simp [intOf]; omega⟩
        | false =>
          gi_wp2_with fail
          go_ret
          exact .inr ⟨rfl, ge k (came 0 nd (i + 1)), ge_pre came_pre, by rw [HST.out, ← List.append_assoc]; exact HC2.out (by simp)⟩
      · have h2 : i = len ∨ i = len + 1 := by omega
        rcases h2 with rfl | rfl
        · have i1 : ¬ (i : Int) < (i : Int) := by omega
          gi_wp2_with fail
          refine ⟨trivial, (fun h => by cases h), KL.out.mono ?_⟩
          rintro e w2 ⟨rfl, rfl⟩
          gi_wp2_with fail
          refine ⟨trivial, ?_⟩
          gi_wp2_with fail
          refine ⟨trivial, ?_⟩
          gi_wp2_with fail
          have e1 := HLEN.out
          have e2 := ge_end (h := 0) HS.out k
          rw [← e1, show ge k (kidL 0 nd i) = [] from rfl, List.append_nil] at e2
          exact ⟨⟨i + 1, by omega, by omega, by go_num, by rw [e2]; exact hj.out, hb.out⟩, by simp [intOf]; omega⟩
        · gi_wp2_with fail
          go_ret
          have e1 := HLEN.out
          have e2 : came 0 nd (len + 1) = lst 0 nd := came_all HS.out (by omega)
          exact .inl ⟨rfl, by rw [← e2]; exact hj.out, hb.out⟩
  | succ h ih =>
    intro W o M p nd A pre0 n hM ho hbW t hs hu hl hT hj0 hN
    obtain ⟨cs, hp⟩ := t.head
    obtain ⟨cs', A', hp', hrw, -⟩ := t
    rw [hp] at hp'
    cases hp'
    have hcl : cs.length = nd.es.length + 1 := by rw [hrw.len]; exact hs.1
    have HCL := hid hcl
    have HRW := hid hrw
    have IH := hid ih
    clear ih hrw hcl
    have HM := hid hM
    have HO := hid ho
    have HU := hid hu
    have HS := hid hs
    have HT := hid hT
    have HN := hid hN
    have HJ := hid hJ
    have HP := hid hp
    have HY := hid hY
    obtain ⟨ae, ce, ab, cb, op0⟩ := hM.open_ hp
    have KF := hid (callsIn_wide (n := n - 1).2 (find_any W p _ ae ce ab cb op0 (hu.sublist (es_sub hs)) hl k))
    have B0 := hid hbW
    have J0 := hid hj0
    have hpl := pos_le nd.es k
    have HPO : Hid (pos nd.es k ≤ nd.es.length) := hpl
    have HG := hid (ge_low hs hu k)
    obtain ⟨P, hP⟩ : ∃ P, P = pos nd.es k := ⟨_, rfl⟩
    have HPP := hid hP
    clear op0 hM ho hu hT hN hJ hp hY hbW hj0 hpl
    simp only [← hP] at KF
    clear hP
    refine callsIn_of_wp Try.func50 rfl trivial ?_ rfl
    simp only [Try.ntmps50, List.size_toArray, List.length_cons, List.length_nil, Nat.reduceAdd, Nat.reduceSub, Array.replicate_succ, Array.replicate_zero, List.push_toArray, List.append_toArray, List.nil_append, List.cons_append]
    gi_wp2_with fail
    refine ⟨trivial, (fun h => by cases h), KF.out.mono ?_⟩
    rintro e w1 ⟨rfl, hb1⟩
    have B1 := hid hb1
    clear hb1 KF
    gi_wp2_with fail
    gi_loopw [9] (fun v wr => ∃ i : Nat, P ≤ i ∧ i ≤ nd.es.length + 1 ∧ v = .int .i64 (i : Int) ∧ Hid (J (pre0 ++ ge k (came (h + 1) nd i)) wr) ∧ Hid (Below b W wr)) (fun v _ => nd.es.length + 2 - (intOf v).toNat)
    case atStart =>
      have e : ge k (came (h + 1) nd P) = [] := by rw [HPP.out]; exact HG.out
      exact ⟨P, Nat.le_refl _, by have := HPP.out; have := HPO.out; omega, rfl, by rw [e, List.append_nil]; exact HJ.out _ _ _ J0.out B1.out, B1.out.mono B0.out⟩
    case round =>
      obtain ⟨i, hpi, hi, rfl, hj, hb⟩ := hrel
      have HM2 := hid (HM.out.low hb.out HO.out)
      obtain ⟨ae, ce, ab, cb, op⟩ := HM2.out.open_ HP.out
      have c0 := op.at_.c0
      have c1 := op.at_.c1
      have KL := hid (callsIn_wide (n := n - 1).2 (last_any wr p _ ae ce ab cb op))
      have hbw : Hid (b ≤ wr.heap.size) := Nat.le_trans B0.out hb.out.size
      obtain ⟨len, hlen⟩ : ∃ len, len = nd.es.length := ⟨_, rfl⟩
      have HLEN := hid hlen
      simp only [← hlen] at c0 hi hl
      skip
      have i0 : (0 : Int) ≤ (i : Int) := by omega
      have hli : (len : Int) ≤ 2000 := by omega
      by_cases h1 : i < len
      · obtain ⟨e, he⟩ : ∃ e, nd.es[i]? = some e := ⟨_, List.getElem?_eq_getElem (by omega)⟩
        have HE := hid he
        have i1 : (i : Int) < (len : Int) := by omega
        have i2 : (i : Int) ≤ (len : Int) := by omega
        have hile : i ≤ nd.es.length := by have := HLEN.out; omega
        obtain ⟨bb, hbb⟩ : ∃ bb, nd.bs[i]? = some bb := ⟨_, List.getElem?_eq_getElem (by have := HS.out.1; omega)⟩
        have hkl : kidL (h + 1) nd i = lst h bb := by simp [kidL, hbb]
        have HKL := hid hkl
        obtain ⟨cc, Ab, hcc, htr⟩ := rws_kid HRW.out hbb
        obtain ⟨kb, ko, e0, kd⟩ := op.kid hcc
        subst e0
        have hkp := kid_len HS.out k hile
        rw [hkl] at hkp
        have HKP := hid hkp
        have hck := came_kid HS.out hile
        rw [hkl] at hck
        have hlN : ((pre0 ++ ge k (came (h + 1) nd i)) ++ ge k (lst h bb)).length ≤ N := by
          have q1 := hkp.length_le
          have q2 := HN.out
          simp only [List.length_append] at q1 q2 ⊢
          omega
        have hob := HS.out.2 bb (List.mem_of_getElem? hbb)
        have KK := hid ((IH.out wr o M cc bb Ab (pre0 ++ ge k (came (h + 1) nd i)) (n - 1) HM2.out HO.out hbw.out htr hob.2.2 (HU.out.sublist hck) (by omega) (fun x hx => HT.out x (hck.subset hx)) hj.out hlN).mono fun e w' hf => FromTo.some hf)
        have hcz : (cs.length == 0) = false := by rw [beq_eq_false_iff_ne]; have := HCL.out; omega
        rw [hcz] at KL
        have k1 : (i : Int) < (cs.length : Int) := by have := HCL.out; have := HLEN.out; omega
        generalize cs.length = CL at *
        clear op hbb hkl hcc htr hkp hck hlN hob hcz hile
        gi_wp2_with fail
        refine ⟨trivial, (fun h => by cases h), KL.out.mono ?_⟩
        rintro e w2 ⟨rfl, rfl⟩
        gi_wp2_with fail
        refine ⟨trivial, (fun h => by cases h), KK.out.mono ?_⟩
        rintro e w3 ⟨c1, rfl, hk1, hk2⟩
        have HK1 := hid hk1
        have HK2 := hid hk2
        clear hk1 hk2 KK KL
        cases c1 with
        | false =>
          gi_wp2_with fail
          go_ret
          obtain ⟨q, hq, hx⟩ := HK2.out (by simp)
          exact .inr ⟨rfl, ge k (came (h + 1) nd i) ++ q, ((List.prefix_append_right_inj _).2 hq).trans HKP.out, by rw [← List.append_assoc]; exact hx⟩
        | true =>
          obtain ⟨hj3, hb3⟩ := HK1.out (by simp)
          have hb4 : Hid (Below b W w3) := hb.out.trans hb3
          have op3 := HM.out.low hb4.out HO.out
          obtain ⟨ae, ce, ab, cb, op⟩ := op3.open_ HP.out
          have c0 := op.at_.c0
          obtain ⟨eb, eo, rfl, d0, d1⟩ := op.ent he
          have hst := ge_step HS.out HU.out k (by rw [← HPP.out]; exact hpi) he
          have HST := hid hst
          rw [HKL.out] at hst
          have hpre : (pre0 ++ ge k (came (h + 1) nd i) ++ ge k (lst h bb)).length < N := by
            have q1 := (ge_pre (k := k) (came_pre (h := h + 1) (nd := nd) (i := i + 1))).length_le
            have q2 := HN.out
            rw [hst] at q1
            simp only [List.length_append, List.length_cons, List.length_nil] at q1 q2 ⊢
            omega
          have KH := hid (hand_from HJ.out HY.out (n - 1) e (HT.out e ((es_sub HS.out).subset (List.mem_of_getElem? he))) w3 _ hj3 hpre (Nat.le_trans B0.out hb4.out.size))
          simp only [← HLEN.out] at c0
          obtain ⟨ek, et⟩ := e
          simp only at d0 d1 KH
          clear op op3 he hst hpre hj3 hb3
          gi_wp2_with fail
          refine ⟨trivial, (fun h => by cases h), KH.out.mono ?_⟩
          rintro e w4 ⟨c, rfl, hc1, hc2⟩
          have HC1 := hid hc1
          have HC2 := hid hc2
          clear hc1 hc2 KH
          cases c with
          | true =>
            gi_wp2_with fail
            have e1 := HLEN.out
            exact ⟨⟨i + 1, by omega, by omega, by go_num, by rw [HST.out, HKL.out, ← List.append_assoc, ← List.append_assoc]; exact (HC1.out (by simp)).1, hb4.out.trans (HC1.out (by simp)).2⟩, by simp [intOf]; omega⟩
          | false =>
            gi_wp2_with fail
            go_ret
            exact .inr ⟨rfl, ge k (came (h + 1) nd (i + 1)), ge_pre came_pre, by rw [HST.out, HKL.out, ← List.append_assoc, ← List.append_assoc]; exact HC2.out (by simp)⟩
      · have h2 : i = len ∨ i = len + 1 := by omega
        clear hlen
        rcases h2 with h2 | h2
        · subst h2
          have i1 : ¬ (i : Int) < (i : Int) := by omega
          have hile : i ≤ nd.es.length := by have := HLEN.out; omega
          obtain ⟨bb, hbb⟩ : ∃ bb, nd.bs[i]? = some bb := ⟨_, List.getElem?_eq_getElem (by have := HS.out.1; omega)⟩
          have hkl : kidL (h + 1) nd i = lst h bb := by simp [kidL, hbb]
          have HKL := hid hkl
          obtain ⟨cc, Ab, hcc, htr⟩ := rws_kid HRW.out hbb
          obtain ⟨kb, ko, e0, kd⟩ := op.kid hcc
          subst e0
          have hkp := kid_len HS.out k hile
          rw [hkl] at hkp
          have HKP := hid hkp
          have hck := came_kid HS.out hile
          rw [hkl] at hck
          have hlN : ((pre0 ++ ge k (came (h + 1) nd i)) ++ ge k (lst h bb)).length ≤ N := by
            have q1 := hkp.length_le
            have q2 := HN.out
            simp only [List.length_append] at q1 q2 ⊢
            omega
          have hob := HS.out.2 bb (List.mem_of_getElem? hbb)
          have KK := hid ((IH.out wr o M cc bb Ab (pre0 ++ ge k (came (h + 1) nd i)) (n - 1) HM2.out HO.out hbw.out htr hob.2.2 (HU.out.sublist hck) (by omega) (fun x hx => HT.out x (hck.subset hx)) hj.out hlN).mono fun e w' hf => FromTo.some hf)
          have hcz : (cs.length == 0) = false := by rw [beq_eq_false_iff_ne]; have := HCL.out; omega
          rw [hcz] at KL
          have k1 : (i : Int) < (cs.length : Int) := by have := HCL.out; have := HLEN.out; omega
          generalize cs.length = CL at *
          clear op hbb hkl hcc htr hkp hck hlN hob hcz hile
          gi_wp2_with fail
          refine ⟨trivial, (fun h => by cases h), KL.out.mono ?_⟩
          rintro e w2 ⟨rfl, rfl⟩
          gi_wp2_with fail
          refine ⟨trivial, (fun h => by cases h), KK.out.mono ?_⟩
          rintro e w3 ⟨c1, rfl, hk1, hk2⟩
          have HK1 := hid hk1
          have HK2 := hid hk2
          clear hk1 hk2 KK KL
          cases c1 with
          | false =>
            gi_wp2_with fail
            go_ret
            obtain ⟨q, hq, hx⟩ := HK2.out (by simp)
            exact .inr ⟨rfl, ge k (came (h + 1) nd i) ++ q, ((List.prefix_append_right_inj _).2 hq).trans HKP.out, by rw [← List.append_assoc]; exact hx⟩
          | true =>
            obtain ⟨hj3, hb3⟩ := HK1.out (by simp)
            have hb4 : Hid (Below b W w3) := hb.out.trans hb3
            have op3 := HM.out.low hb4.out HO.out
            obtain ⟨ae, ce, ab, cb, op⟩ := op3.open_ HP.out
            have c0 := op.at_.c0
            have HJ3 := hid hj3
            simp only [← HLEN.out] at c0
            clear op op3 hj3 hb3
            gi_wp2_with fail
            refine ⟨trivial, ?_⟩
            gi_wp2_with fail
            have e1 := HLEN.out
            have e2 := ge_end (h := h + 1) HS.out k
            rw [← e1, HKL.out] at e2
            exact ⟨⟨i + 1, by omega, by omega, by go_num, by rw [e2, ← List.append_assoc]; exact HJ3.out, hb4.out⟩, by simp [intOf]; omega⟩
        · subst h2
          gi_wp2_with fail
          go_ret
          have e1 := HLEN.out
          have e2 : came (h + 1) nd (len + 1) = lst (h + 1) nd := came_all HS.out (by omega)
          exact .inl ⟨rfl, by rw [← e2]; exact hj.out, hb.out⟩
end Go.Proofs.Ytlefcjgemojhpab.PTree
