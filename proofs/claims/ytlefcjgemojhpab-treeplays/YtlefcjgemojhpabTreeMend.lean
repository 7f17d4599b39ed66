/- tree's mend, walked: a child with one key too few gets one of a neighbour's, or is made one with a neighbour. -/
import Derived.Test.YtlefcjgemojhpabTreeLend
namespace Go.Proofs.Ytlefcjgemojhpab.PTree
open Go Go.RowKit PPool
set_option maxRecDepth 100000
theorem last_of {α : Type} {l : List α} (h : 0 < l.length) : ∃ a x, l = a ++ [x] ∧ a.length + 1 = l.length := by
  have hn : l ≠ [] := by intro e; rw [e] at h; simp at h
  exact ⟨l.dropLast, l.getLast hn, (List.dropLast_concat_getLast hn).symm, by rw [List.length_dropLast]; omega⟩
theorem cons_of {α : Type} {l : List α} (h : 0 < l.length) : ∃ x a, l = x :: a ∧ a.length + 1 = l.length := by
  cases l with
  | nil => simp at h
  | cons x a => exact ⟨x, a, rfl, rfl⟩
/-- What the walk reads of a node and of one below it. -/
theorem reads {w : World} {o : Lab} {M : Sto} (hM : Mem w o M) {p : Nat} {X : List En} {C : List Nat} (hp : M p = some ⟨X, C⟩) {j c : Nat} (hj : C[j]? = some c) {n : Nn} (hc : M c = some n) :
    ∃ b o' ae ce cb ac cc, w.cell? ⟨p, 0, none⟩ = some (.slice ae X.length ce) ∧ w.cell? ⟨p, 1, none⟩ = some (.slice (some ⟨b, o', none⟩) C.length cb) ∧ w.cell? ⟨b, o' + j, none⟩ = some (.pointer (some ⟨c, 0, none⟩)) ∧ w.cell? ⟨c, 0, none⟩ = some (.slice ac n.es.length cc) := by
  obtain ⟨ae, ce, ab, cb, op⟩ := hM.open_ hp
  obtain ⟨ac, cc, _, _, opc⟩ := hM.open_ hc
  obtain ⟨b, o', rfl, d⟩ := op.kid hj
  exact ⟨b, o', ae, ce, cb, ac, cc, op.at_.c0, op.at_.c1, d, opc.at_.c0⟩
set_option maxHeartbeats 4000000 in
theorem mend_no (w : World) (p i b o' CN cb c nb cc : Nat) (ac : Option Addr) (hi : i < CN) (c1 : w.cell? ⟨p, 1, none⟩ = some (.slice (some ⟨b, o', none⟩) CN cb)) (d1 : w.cell? ⟨b, o' + i, none⟩ = some (.pointer (some ⟨c, 0, none⟩)))
    (q1 : w.cell? ⟨c, 0, none⟩ = some (.slice ac nb cc)) (hnb : 2 ≤ nb) :
    Calls Try.prog 60 #[.pointer (some ⟨p, 0, none⟩), .int .i64 (i : Int)] w fun e w' => e = .returned (.tuple #[]) ∧ Below w.heap.size w w' := by
  have k0 : (0 : Int) ≤ (i : Int) := by omega
  have k1 : (i : Int) < (CN : Int) := by omega
  have k2 : decide ((2 : Int) ≤ (nb : Int)) = true := by simp; omega
  have k3 : (2 : Int) ≤ (nb : Int) := by omega
  go_enter Try.func60, Try.ntmps60
  go_wp2_with fail
  go_end0
  exact ⟨rfl, by first | exact Below.refl _ _ | exact (Below.refl _ _).drew⟩
set_option maxHeartbeats 4000000 in
theorem mend_right (w : World) (p j b o' CN cb c nb cc l nl lk : Nat) (ac al : Option Addr) (P : World → Prop) (hC : CN ≤ 11) (hi : j + 1 < CN) (c1 : w.cell? ⟨p, 1, none⟩ = some (.slice (some ⟨b, o', none⟩) CN cb))
    (d1 : w.cell? ⟨b, o' + (j + 1), none⟩ = some (.pointer (some ⟨c, 0, none⟩))) (q1 : w.cell? ⟨c, 0, none⟩ = some (.slice ac nb cc)) (hnb : nb = 1)
    (d2 : w.cell? ⟨b, o' + j, none⟩ = some (.pointer (some ⟨l, 0, none⟩))) (q2 : w.cell? ⟨l, 0, none⟩ = some (.slice al nl lk)) (hnl : 2 < nl)
    (K : Calls Try.prog 69 #[.pointer (some ⟨p, 0, none⟩), .int .i64 (j : Int)] w fun e w' => e = .returned (.tuple #[]) ∧ P w') :
    Calls Try.prog 60 #[.pointer (some ⟨p, 0, none⟩), .int .i64 ((j + 1 : Nat) : Int)] w fun e w' => e = .returned (.tuple #[]) ∧ P w' := by
  have HK := hid K
  have k0 : (0 : Int) ≤ (j : Int) := by omega
  have k1 : (j : Int) < (CN : Int) := by omega
  have k2 : (j : Int) + 1 < (CN : Int) := by omega
  have k4 : (j : Int) ≤ 12 := by omega
  have k5 : (2 : Int) < (nl : Int) := by omega
  subst hnb
  clear K
  go_enter Try.func60, Try.ntmps60
  go_wp2_with fail
  refine HK.out.mono ?_
  rintro r w1 ⟨rfl, hP⟩
  have HP := hid hP
  clear hP
  go_wp2_with fail
  go_end0
  exact ⟨rfl, HP.out⟩
set_option maxHeartbeats 4000000 in
theorem mend_left0 (w : World) (p b o' CN cb c nb cc r nr rk XN xc : Nat) (ac ar ax : Option Addr) (P : World → Prop) (hC : CN ≤ 11) (c0 : w.cell? ⟨p, 0, none⟩ = some (.slice ax XN xc)) (c1 : w.cell? ⟨p, 1, none⟩ = some (.slice (some ⟨b, o', none⟩) CN cb))
    (d1 : w.cell? ⟨b, o' + 0, none⟩ = some (.pointer (some ⟨c, 0, none⟩))) (q1 : w.cell? ⟨c, 0, none⟩ = some (.slice ac nb cc)) (hnb : nb = 1)
    (hX : 0 < XN) (hi2 : 0 + 1 < CN) (d3 : w.cell? ⟨b, o' + (0 + 1), none⟩ = some (.pointer (some ⟨r, 0, none⟩))) (q3 : w.cell? ⟨r, 0, none⟩ = some (.slice ar nr rk)) (hnr : 2 < nr)
    (K : Calls Try.prog 70 #[.pointer (some ⟨p, 0, none⟩), .int .i64 0] w fun e w' => e = .returned (.tuple #[]) ∧ P w') :
    Calls Try.prog 60 #[.pointer (some ⟨p, 0, none⟩), .int .i64 0] w fun e w' => e = .returned (.tuple #[]) ∧ P w' := by
  simp only [Nat.add_zero, Nat.zero_add] at d1 hi2 d3
  have k1 : (0 : Int) < (CN : Int) := by omega
  have k7 : (1 : Int) < (CN : Int) := by omega
  have k8 : (0 : Int) < (XN : Int) := by omega
  have k8' : decide ((0 : Int) < (XN : Int)) = true := by simpa using hX
  have k8n : decide (0 < XN) = true := by simpa using hX
  have k9 : (2 : Int) < (nr : Int) := by omega
  have k9' : decide ((2 : Int) < (nr : Int)) = true := by simp; omega
  have k9n : decide (2 < nr) = true := by simp; omega
  have HK := hid K
  subst hnb
  clear K
  go_enter Try.func60, Try.ntmps60
  go_wp2_with fail
  refine HK.out.mono ?_
  rintro r w1 ⟨rfl, hP⟩
  have HP := hid hP
  clear hP
  go_wp2_with fail
  go_end0
  exact ⟨rfl, HP.out⟩
set_option maxHeartbeats 4000000 in
theorem mend_left1 (w : World) (p j b o' CN cb c nb cc l nl lk r nr rk XN xc : Nat) (ac al ar ax : Option Addr) (P : World → Prop) (hC : CN ≤ 11) (c0 : w.cell? ⟨p, 0, none⟩ = some (.slice ax XN xc)) (c1 : w.cell? ⟨p, 1, none⟩ = some (.slice (some ⟨b, o', none⟩) CN cb))
    (d1 : w.cell? ⟨b, o' + (j + 1), none⟩ = some (.pointer (some ⟨c, 0, none⟩))) (q1 : w.cell? ⟨c, 0, none⟩ = some (.slice ac nb cc)) (hnb : nb = 1)
    (d2 : w.cell? ⟨b, o' + j, none⟩ = some (.pointer (some ⟨l, 0, none⟩))) (q2 : w.cell? ⟨l, 0, none⟩ = some (.slice al nl lk)) (hnl : nl ≤ 2)
    (hX : (j + 1) < XN) (hi2 : (j + 1) + 1 < CN) (d3 : w.cell? ⟨b, o' + ((j + 1) + 1), none⟩ = some (.pointer (some ⟨r, 0, none⟩))) (q3 : w.cell? ⟨r, 0, none⟩ = some (.slice ar nr rk)) (hnr : 2 < nr)
    (K : Calls Try.prog 70 #[.pointer (some ⟨p, 0, none⟩), .int .i64 ((j + 1 : Nat) : Int)] w fun e w' => e = .returned (.tuple #[]) ∧ P w') :
    Calls Try.prog 60 #[.pointer (some ⟨p, 0, none⟩), .int .i64 ((j + 1 : Nat) : Int)] w fun e w' => e = .returned (.tuple #[]) ∧ P w' := by
  have k0 : (0 : Int) ≤ (j : Int) := by omega
  have k1 : (j : Int) < (CN : Int) := by omega
  have k2 : (j : Int) + 1 < (CN : Int) := by omega
  have k4 : (j : Int) ≤ 12 := by omega
  have k5 : ¬ (2 : Int) < (nl : Int) := by omega
  have k6 : decide ((2 : Int) < (nl : Int)) = false := by simp; omega
  rw [show ((j + 1 : Nat) : Int) = (j : Int) + 1 by omega] at K
  have k7 : (j : Int) + 1 + 1 < (CN : Int) := by omega
  have k7' : (j : Int) + 2 < (CN : Int) := by omega
  have k8 : (j : Int) + 1 < (XN : Int) := by omega
  have k8' : decide ((j : Int) + 1 < (XN : Int)) = true := by simp; omega
  have k8n : decide (j + 1 < XN) = true := by simpa using hX
  have k9 : (2 : Int) < (nr : Int) := by omega
  have k9' : decide ((2 : Int) < (nr : Int)) = true := by simp; omega
  have k9n : decide (2 < nr) = true := by simp; omega
  have HK := hid K
  subst hnb
  clear K
  go_enter Try.func60, Try.ntmps60
  go_wp2_with fail
  refine HK.out.mono ?_
  rintro r w1 ⟨rfl, hP⟩
  have HP := hid hP
  clear hP
  go_wp2_with fail
  go_end0
  exact ⟨rfl, HP.out⟩
set_option maxHeartbeats 4000000 in
theorem mend_join0 (w : World) (p b o' CN cb c nb cc r nr rk XN xc : Nat) (ac ar ax : Option Addr) (P : World → Prop) (hC : CN ≤ 11) (c0 : w.cell? ⟨p, 0, none⟩ = some (.slice ax XN xc)) (c1 : w.cell? ⟨p, 1, none⟩ = some (.slice (some ⟨b, o', none⟩) CN cb))
    (d1 : w.cell? ⟨b, o' + 0, none⟩ = some (.pointer (some ⟨c, 0, none⟩))) (q1 : w.cell? ⟨c, 0, none⟩ = some (.slice ac nb cc)) (hnb : nb = 1)
    (hX : 0 < XN) (hi2 : 0 + 1 < CN) (d3 : w.cell? ⟨b, o' + (0 + 1), none⟩ = some (.pointer (some ⟨r, 0, none⟩))) (q3 : w.cell? ⟨r, 0, none⟩ = some (.slice ar nr rk)) (hnr : nr ≤ 2)
    (K : Calls Try.prog 71 #[.pointer (some ⟨p, 0, none⟩), .int .i64 0] w fun e w' => e = .returned (.tuple #[]) ∧ P w') :
    Calls Try.prog 60 #[.pointer (some ⟨p, 0, none⟩), .int .i64 0] w fun e w' => e = .returned (.tuple #[]) ∧ P w' := by
  simp only [Nat.add_zero, Nat.zero_add] at d1 hi2 d3
  have k1 : (0 : Int) < (CN : Int) := by omega
  have k7 : (1 : Int) < (CN : Int) := by omega
  have k8 : (0 : Int) < (XN : Int) := by omega
  have k8' : decide ((0 : Int) < (XN : Int)) = true := by simpa using hX
  have k8n : decide (0 < XN) = true := by simpa using hX
  have k9 : ¬ (2 : Int) < (nr : Int) := by omega
  have k9' : decide ((2 : Int) < (nr : Int)) = false := by simp; omega
  have k9n : decide (2 < nr) = false := by simp; omega
  have HK := hid K
  subst hnb
  clear K
  go_enter Try.func60, Try.ntmps60
  go_wp2_with fail
  refine HK.out.mono ?_
  rintro r w1 ⟨rfl, hP⟩
  have HP := hid hP
  clear hP
  go_wp2_with fail
  go_end0
  exact ⟨rfl, HP.out⟩
set_option maxHeartbeats 4000000 in
theorem mend_join1 (w : World) (p j b o' CN cb c nb cc l nl lk r nr rk XN xc : Nat) (ac al ar ax : Option Addr) (P : World → Prop) (hC : CN ≤ 11) (c0 : w.cell? ⟨p, 0, none⟩ = some (.slice ax XN xc)) (c1 : w.cell? ⟨p, 1, none⟩ = some (.slice (some ⟨b, o', none⟩) CN cb))
    (d1 : w.cell? ⟨b, o' + (j + 1), none⟩ = some (.pointer (some ⟨c, 0, none⟩))) (q1 : w.cell? ⟨c, 0, none⟩ = some (.slice ac nb cc)) (hnb : nb = 1)
    (d2 : w.cell? ⟨b, o' + j, none⟩ = some (.pointer (some ⟨l, 0, none⟩))) (q2 : w.cell? ⟨l, 0, none⟩ = some (.slice al nl lk)) (hnl : nl ≤ 2)
    (hX : (j + 1) < XN) (hi2 : (j + 1) + 1 < CN) (d3 : w.cell? ⟨b, o' + ((j + 1) + 1), none⟩ = some (.pointer (some ⟨r, 0, none⟩))) (q3 : w.cell? ⟨r, 0, none⟩ = some (.slice ar nr rk)) (hnr : nr ≤ 2)
    (K : Calls Try.prog 71 #[.pointer (some ⟨p, 0, none⟩), .int .i64 (j : Int)] w fun e w' => e = .returned (.tuple #[]) ∧ P w') :
    Calls Try.prog 60 #[.pointer (some ⟨p, 0, none⟩), .int .i64 ((j + 1 : Nat) : Int)] w fun e w' => e = .returned (.tuple #[]) ∧ P w' := by
  have k0 : (0 : Int) ≤ (j : Int) := by omega
  have k1 : (j : Int) < (CN : Int) := by omega
  have k2 : (j : Int) + 1 < (CN : Int) := by omega
  have k4 : (j : Int) ≤ 12 := by omega
  have k5 : ¬ (2 : Int) < (nl : Int) := by omega
  have k6 : decide ((2 : Int) < (nl : Int)) = false := by simp; omega
  have k7 : (j : Int) + 1 + 1 < (CN : Int) := by omega
  have k7' : (j : Int) + 2 < (CN : Int) := by omega
  have k8 : (j : Int) + 1 < (XN : Int) := by omega
  have k8' : decide ((j : Int) + 1 < (XN : Int)) = true := by simp; omega
  have k8n : decide (j + 1 < XN) = true := by simpa using hX
  have k9 : ¬ (2 : Int) < (nr : Int) := by omega
  have k9' : decide ((2 : Int) < (nr : Int)) = false := by simp; omega
  have k9n : decide (2 < nr) = false := by simp; omega
  have HK := hid K
  subst hnb
  clear K
  go_enter Try.func60, Try.ntmps60
  go_wp2_with fail
  refine HK.out.mono ?_
  rintro r w1 ⟨rfl, hP⟩
  have HP := hid hP
  clear hP
  go_wp2_with fail
  go_end0
  exact ⟨rfl, HP.out⟩
set_option maxHeartbeats 4000000 in
theorem mend_join2 (w : World) (p j b o' CN cb c nb cc l nl lk XN xc : Nat) (ac al ax : Option Addr) (P : World → Prop) (hC : CN ≤ 11) (hi : (j + 1) < CN) (c0 : w.cell? ⟨p, 0, none⟩ = some (.slice ax XN xc)) (c1 : w.cell? ⟨p, 1, none⟩ = some (.slice (some ⟨b, o', none⟩) CN cb))
    (d1 : w.cell? ⟨b, o' + (j + 1), none⟩ = some (.pointer (some ⟨c, 0, none⟩))) (q1 : w.cell? ⟨c, 0, none⟩ = some (.slice ac nb cc)) (hnb : nb = 1)
    (d2 : w.cell? ⟨b, o' + j, none⟩ = some (.pointer (some ⟨l, 0, none⟩))) (q2 : w.cell? ⟨l, 0, none⟩ = some (.slice al nl lk)) (hnl : nl ≤ 2)
    (hX : XN = j + 1)
    (K : Calls Try.prog 71 #[.pointer (some ⟨p, 0, none⟩), .int .i64 (j : Int)] w fun e w' => e = .returned (.tuple #[]) ∧ P w') :
    Calls Try.prog 60 #[.pointer (some ⟨p, 0, none⟩), .int .i64 ((j + 1 : Nat) : Int)] w fun e w' => e = .returned (.tuple #[]) ∧ P w' := by
  have k0 : (0 : Int) ≤ (j : Int) := by omega
  have k1 : (j : Int) < (CN : Int) := by omega
  have k2 : (j : Int) + 1 < (CN : Int) := by omega
  have k4 : (j : Int) ≤ 12 := by omega
  have k5 : ¬ (2 : Int) < (nl : Int) := by omega
  have k6 : decide ((2 : Int) < (nl : Int)) = false := by simp; omega
  subst hX
  have HK := hid K
  subst hnb
  clear K
  go_enter Try.func60, Try.ntmps60
  go_wp2_with fail
  refine HK.out.mono ?_
  rintro r w1 ⟨rfl, hP⟩
  have HP := hid hP
  clear hP
  go_wp2_with fail
  go_end0
  exact ⟨rfl, HP.out⟩
theorem mend_any {w : World} {o : Lab} {M : Sto} {h p i : Nat} {nd b : Nd} {E1 E2 : List En} {B1 B2 : List Nd} {A : List Nat} (hM : Mem w o M) (t : Tr (h + 1) M p nd A) (hn : A.Nodup)
    (hnd : nd = ⟨E1 ++ E2, B1 ++ b :: B2⟩) (hi : i = E1.length) (he : E1.length = B1.length) (h2 : E2.length = B2.length) (hE : E1.length + E2.length ≤ 4) (hpos : 0 < E1.length + E2.length) (o1 : ∀ b ∈ B1, Okc h b) (o2 : ∀ b ∈ B2, Okc h b)
    (sb : Shape h b) (b1 : 1 ≤ b.es.length) (b2 : b.es.length ≤ 4) :
    Calls Try.prog 60 #[.pointer (some ⟨p, 0, none⟩), .int .i64 (i : Int)] w fun e w' => e = .returned (.tuple #[]) ∧ Mended w o M h p nd A w' := by
  have t0 := t
  rw [hnd] at t0
  obtain ⟨C1, c, C2, A1, Ab, A2, m1, l1, l2, eA, k1, k2, k3⟩ := tr_one t0
  obtain ⟨cc, hc⟩ := k2.head
  have hCl : (C1 ++ c :: C2).length ≤ 11 := by simp; omega
  have gi : (C1 ++ c :: C2)[i]? = some c := get_mid _ _ _ (by omega)
  obtain ⟨gb, go, ae, ce, cb, ac, ck, r0, r1, r2, r3⟩ := reads hM m1 gi hc
  by_cases hb : 2 ≤ b.es.length
  · refine (mend_no w p i gb go _ cb c _ ck ac (List.getElem?_eq_some_iff.1 gi).1 r1 r2 r3 hb).mono ?_
    rintro e w' ⟨rfl, hbw⟩
    refine ⟨rfl, o, M, nd, A, hM.below hbw, Gos.of_below hbw, ⟨t, hn, fun q hq => .inl hq, fun _ _ _ => rfl⟩, ?_, rfl, Nat.le_refl _, Nat.le_succ _⟩
    rw [hnd, shape_one he]
    exact ⟨h2, o1, ⟨hb, b2, sb⟩, o2⟩
  · have hb1 : b.es.length = 1 := by omega
    obtain ⟨be, bb⟩ := b
    simp only [Nd.es_mk] at hb1 r3 hc
    by_cases h0 : E1.length = 0
    · obtain rfl : E1 = [] := List.eq_nil_of_length_eq_zero h0
      obtain rfl : B1 = [] := List.eq_nil_of_length_eq_zero (by simpa using he.symm)
      obtain rfl : C1 = [] := List.eq_nil_of_length_eq_zero (by simpa using l1)
      subst hi
      simp only [List.length_nil, Nat.zero_add] at hpos hE
      obtain ⟨s, E2, rfl, e2⟩ := cons_of hpos
      obtain ⟨r, B2, rfl, e3⟩ := cons_of (l := B2) (by rw [← h2]; simp)
      obtain ⟨cr, C2, rfl, e4⟩ := cons_of (l := C2) (by rw [l2]; simp)
      obtain ⟨Ar, A3, rfl, k4, k5⟩ := k3
      obtain ⟨rc, hr⟩ := k4.head
      have gr : ([] ++ c :: cr :: C2)[0 + 1]? = some cr := rfl
      obtain ⟨gb', go', _, _, _, ar, rk, _, q1, q2, q3⟩ := reads hM m1 gr hr
      have er : (Value.slice (some ⟨gb', go', none⟩) _ _) = .slice (some ⟨gb, go, none⟩) _ _ := Option.some.inj (q1.symm.trans r1)
      injection er with er _ _
      injection er with er
      injection er with er1 er2 _
      subst er1; subst er2
      obtain ⟨re, rb⟩ := r
      have hrO := o2 ⟨re, rb⟩ (by simp)
      have hrl := hrO.1
      have hrl2 := hrO.2.1
      simp only [Nd.es_mk, List.length_cons] at hrl hrl2 q3 h2 hE
      have hlen : 1 < ([] ++ c :: cr :: C2).length := by simp
      by_cases hbig : 2 < re.length
      · obtain ⟨x, R, rfl, e5⟩ := cons_of (l := re) (by omega)
        subst hnd
        exact mend_left0 w p gb' go' _ cb c _ ck cr _ rk _ ce ac ar ae _ hCl r0 r1 r2 r3 hb1 (by simp) hlen q2 q3 hbig
          (lend_left_any (E1 := []) (B1 := []) hM t hn rfl rfl (by omega) (by simp; omega) o1 (fun b hb => o2 b (by simp [hb])) sb hrO.2.2 (by have := hbig; simp at this; omega) (by have := hrl2; simp at this; omega) hb1)
      · subst hnd
        exact mend_join0 w p gb' go' _ cb c _ ck cr _ rk _ ce ac ar ae _ hCl r0 r1 r2 r3 hb1 (by simp) hlen q2 q3 (by show re.length ≤ 2; omega)
          (join_two_any (E1 := []) (B1 := []) hM t hn rfl rfl (by omega) (by simp; omega) o1 (fun b hb => o2 b (by simp [hb])) sb hrO.2.2 (by omega))
    · obtain ⟨E1, s, rfl, e1⟩ := last_of (l := E1) (by omega)
      obtain ⟨B1, l, rfl, e2⟩ := last_of (l := B1) (by omega)
      obtain ⟨C1, cl, rfl, e3⟩ := last_of (l := C1) (by omega)
      obtain ⟨_, _, X1, Y1, ec, rfl, j1, j2⟩ := Rws.part k1
      have el := j1.len
      simp only [List.length_append, List.length_cons, List.length_nil] at he l1 hE hpos hi
      obtain ⟨rfl, ec2⟩ := List.append_inj ec (by omega)
      subst ec2
      obtain ⟨Y2, Y3, rfl, k4, k5⟩ := j2
      obtain ⟨lc, hl⟩ := k4.head
      obtain ⟨j, rfl⟩ : ∃ j, i = j + 1 := ⟨E1.length, hi⟩
      have hj : j = E1.length := by omega
      have gl : ((C1 ++ [cl]) ++ c :: C2)[j]? = some cl := by
        rw [List.append_assoc]; exact get_mid _ _ _ (by omega)
      obtain ⟨gb', go', _, _, _, al, lk, _, q1, q2, q3⟩ := reads hM m1 gl hl
      have er : (Value.slice (some ⟨gb', go', none⟩) _ _) = .slice (some ⟨gb, go, none⟩) _ _ := Option.some.inj (q1.symm.trans r1)
      injection er with er _ _
      injection er with er
      injection er with er1 er2 _
      subst er1; subst er2
      obtain ⟨le, lb⟩ := l
      have hlO := o1 ⟨le, lb⟩ (by simp)
      have hll := hlO.1
      have hll2 := hlO.2.1
      simp only [Nd.es_mk] at hll hll2 q3
      have o1' : ∀ b ∈ B1, Okc h b := fun b hb => o1 b (by simp [hb])
      have hnd2 : nd = ⟨E1 ++ s :: E2, B1 ++ ⟨le, lb⟩ :: ⟨be, bb⟩ :: B2⟩ := by rw [hnd]; simp
      have hlen : j + 1 < ((C1 ++ [cl]) ++ c :: C2).length := (List.getElem?_eq_some_iff.1 gi).1
      by_cases hbig : 2 < le.length
      · obtain ⟨L, x, rfl, e5⟩ := last_of (l := le) (by omega)
        subst hnd2
        exact mend_right w p j gb' go' _ cb c _ ck cl _ lk ac al _ hCl hlen r1 r2 r3 hb1 q2 q3 hbig
          (lend_right_any hM t hn hj (by omega) h2 (by omega) o1' o2 hlO.2.2 sb (by omega) (by omega) hb1)
      · have hll3 : le.length ≤ 2 := by omega
        have KJ := fun (_ : Unit) => join_two_any (w := w) (o := o) (M := M) (i := j) (E1 := E1) (E2 := E2) (B1 := B1) (B2 := B2) (A := A) (L := le) (R := be) (s := s) (LB := lb) (RB := bb) hM (by rw [← hnd2]; exact t) hn hj (by omega) h2 (by omega) o1' o2 hlO.2.2 sb (by omega)
        rw [← hnd2] at KJ
        by_cases h3 : E2.length = 0
        · exact mend_join2 w p j gb' go' _ cb c _ ck cl _ lk _ ce ac al ae _ hCl hlen r0 r1 r2 r3 hb1 q2 q3 hll3 (by simp; omega) (KJ ())
        · obtain ⟨s2, E2, rfl, e6⟩ := cons_of (l := E2) (by omega)
          obtain ⟨r, B2, rfl, e7⟩ := cons_of (l := B2) (by omega)
          obtain ⟨cr, C2, rfl, e8⟩ := cons_of (l := C2) (by omega)
          obtain ⟨Ar, A3, rfl, k6, k7⟩ := k3
          obtain ⟨rc, hr⟩ := k6.head
          have gr : ((C1 ++ [cl]) ++ c :: cr :: C2)[j + 1 + 1]? = some cr := get_mid2 _ _ _ _ (by simp; omega)
          obtain ⟨gb'', go'', _, _, _, ar, rk, _, p1, p2, p3⟩ := reads hM m1 gr hr
          have er : (Value.slice (some ⟨gb'', go'', none⟩) _ _) = .slice (some ⟨gb', go', none⟩) _ _ := Option.some.inj (p1.symm.trans r1)
          injection er with er _ _
          injection er with er
          injection er with er1 er2 _
          subst er1; subst er2
          obtain ⟨re, rb⟩ := r
          have hrO := o2 ⟨re, rb⟩ (by simp)
          have hrl := hrO.1
          have hrl2 := hrO.2.1
          simp only [Nd.es_mk] at hrl hrl2 p3
          simp only [List.length_cons] at h2 hE
          have hlen2 : j + 1 + 1 < ((C1 ++ [cl]) ++ c :: cr :: C2).length := (List.getElem?_eq_some_iff.1 gr).1
          have hXl : j + 1 < (E1 ++ [s] ++ s2 :: E2).length := by simp; omega
          by_cases hbr : 2 < re.length
          · obtain ⟨x, R, rfl, e9⟩ := cons_of (l := re) (by omega)
            subst hnd
            exact mend_left1 w p j gb'' go'' _ cb c _ ck cl _ lk cr _ rk _ ce ac al ar ae _ hCl r0 r1 r2 r3 hb1 q2 q3 hll3 hXl hlen2 p2 p3 hbr
              (lend_left_any hM t hn (by simp; omega) (by simp; omega) (by omega) (by simp; omega) o1 (fun b hb => o2 b (by simp [hb])) sb hrO.2.2 (by have := hbr; simp at this; omega) (by have := hrl2; simp at this; omega) hb1)
          · exact mend_join1 w p j gb'' go'' _ cb c _ ck cl _ lk cr _ rk _ ce ac al ar ae _ hCl r0 r1 r2 r3 hb1 q2 q3 hll3 hXl hlen2 p2 p3 (by show re.length ≤ 2; omega) (KJ ())
end Go.Proofs.Ytlefcjgemojhpab.PTree
