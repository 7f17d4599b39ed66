/- tree's drop, walked: a key that was there is no more; the node may have one key too few, no other has. -/
import Derived.Test.YtlefcjgemojhpabTreeFrame
namespace Go.Proofs.Ytlefcjgemojhpab.PTree
open Go Go.RowKit PPool
set_option maxRecDepth 100000
def DropTo (h : Nat) (w : World) (o : Lab) (M : Sto) (p : Nat) (n : Nd) (A : List Nat) (k : Int) (w' : World) : Prop := ∃ o' M' n' A', Mem w' o' M' ∧ Gos o w w' o' ∧ Stp h w.heap.size M M' p n' A A' ∧
  Shape h n' ∧ lst h n' = out (lst h n) k ∧ n'.es.length ≤ n.es.length ∧ n.es.length ≤ n'.es.length + 1
theorem DropTo.pre {h : Nat} {w w1 w' : World} {o : Lab} {M : Sto} {p : Nat} {n : Nd} {A : List Nat} {k : Int} (hb : Below w.heap.size w w1) (h1 : DropTo h w1 o M p n A k w') : DropTo h w o M p n A k w' := by
  obtain ⟨o', M', n', A', k1, k2, k3, k4⟩ := h1
  exact ⟨o', M', n', A', k1, goes_pre hb k2, k3.lower hb.size, k4⟩
theorem hit_parts {L : List En} {k : Int} (h : hit L k = true) : ∃ x, L = L.take (pos L k) ++ x :: L.drop (pos L k + 1) ∧ x.k = k ∧ L[pos L k]? = some x ∧ pos L k < L.length := by
  obtain ⟨x, hx, hk⟩ := of_decide_eq_true h
  obtain ⟨h1, h2⟩ := List.getElem?_eq_some_iff.1 hx
  refine ⟨x, ?_, hk, hx, h1⟩
  rw [← h2, List.getElem_cons_drop, List.take_append_drop]
theorem hit_mem {L : List En} (hu : Up L) {k : Int} (h : ∃ x ∈ L, x.k = k) : hit L k = true := by
  cases e : hit L k with
  | true => rfl
  | false =>
    obtain ⟨x, hx, hk⟩ := h
    exact absurd hk (hit_false hu e x hx)
set_option maxHeartbeats 4000000 in
theorem drop_leaf (w : World) (o : Lab) (M : Sto) (p : Nat) (nd : Nd) (A : List Nat) (k : Int) (hM : Mem w o M) (t : Tr 0 M p nd A) (hn : A.Nodup) (hu : Up nd.es) (hl : nd.es.length ≤ 5) (hh : hit nd.es k = true) :
    Calls Try.prog 43 #[.pointer (some ⟨p, 0, none⟩), .int .i64 k] w fun r w' => r = .returned (.tuple #[]) ∧ DropTo 0 w o M p nd A k w' := by
  obtain ⟨cs, hp⟩ := t.head
  have hz := kids_zero t hp
  subst hz
  obtain ⟨x, hx1, hx2, hx3, hx4⟩ := hit_parts hh
  have HU : Hid (nd.es.take (pos nd.es k) ++ nd.es.drop (pos nd.es k + 1) = out nd.es k) := by
    show _ = _
    have hu2 := hu
    rw [hx1] at hu2
    have := (up_here (t := ⟨#[]⟩) hu2 hx2).2
    rw [← hx1] at this
    exact this.symm
  have HT := hid t
  have HN := hid hn
  have HP := hid hp
  have N0 : Hid (Now w o w o M) := ⟨hM, Gos.refl _ _⟩
  obtain ⟨ae, ce, ab, cb, op⟩ := hM.open_ hp
  obtain ⟨ge, ce', e, -⟩ := op.e.some (by show 0 < nd.es.length; omega)
  injection e with e2 _ e3
  subst e2; subst e3
  have KF := hid (find_any _ p _ _ ce ab cb op hu (by simp only; omega) k)
  have KL : Hid (∀ w1, Below w.heap.size w w1 → Calls Try.prog 56 #[.pointer (some ⟨p, 0, none⟩)] w1 fun e w' => e = .returned (.bool true) ∧ w' = w1) := fun w1 hb => last_any w1 p _ _ ce ab cb (op.below hb)
  simp only at KF
  rw [hh] at KF
  have q1 := op.at_.c0
  have f1 := op.at_.f0
  have plt := op.at_.lt
  have ap := hM.apart hp op
  have OE := hid op.e
  have m1 : Hid (¬ ownB (.slice (some ⟨ge, 0, none⟩) nd.es.length ce) p) := not_own ap.e ap.self (by simp)
  simp only at q1 OE
  obtain ⟨P, hP⟩ : ∃ P, P = pos nd.es k := ⟨_, rfl⟩
  rw [← hP] at KF HU hx4
  have k0 : (0 : Int) ≤ (P : Int) := by omega
  have k2 : (P : Int) ≤ 6 := by omega
  clear hM t hn hu hh hP op hp ap hx1 hx3
  go_enter Try.func43, Try.ntmps43
  go_wp2_with fail
  refine KF.out.mono ?_
  rintro r w2 ⟨rfl, hb2⟩
  have N2 := hid (N0.out.below hb2)
  have q2 := TE.keep1 hb2 q1
  have f2 := (hb2.frozen (p := ⟨p, 0, none⟩) plt).trans f1
  have plt2 : p < w2.heap.size := Nat.lt_of_lt_of_le plt hb2.size
  have O2 := hid (OE.out.below hb2)
  have KL2 := hid (KL.out w2 hb2)
  have Q2 := hid q2
  clear hb2 KF KL N0 q1 f1 OE plt
  go_wp2_with fail
  refine KL2.out.mono ?_
  rintro r w3 ⟨rfl, rfl⟩
  clear KL2
  go_upto_region 2 with fail
  go_wp2_with fail
  refine (delE (X := nd.es) P (P + 1) rfl (by omega) rfl O2.out (by omega) (by omega) (by omega)).mono ?_
  rintro r5 w5 ⟨v5, rfl, ho5, g5⟩
  have z1 := goes_cell g5 Q2.out m1.out
  have z2 := goes_frz g5 f2 plt2 m1.out
  rw [HU.out] at ho5
  obtain ⟨X, hX⟩ : ∃ X, X = out nd.es k := ⟨_, rfl⟩
  rw [← hX] at ho5 HU
  have HX := hid hX
  clear hX
  obtain ⟨a5, c5, rfl, -⟩ := ho5.at_
  obtain ⟨o5, hN5⟩ := N2.out.setE HP.out Q2.out g5 ho5 rfl
  have N5 := hid hN5
  clear hN5 ho5 g5 q2 f2
  go_wp2_with fail
  refine bodyPost_ret (results_none rfl _ _ _) rfl ?_
  refine ⟨rfl, o5, _, ⟨X, nd.bs⟩, A, N5.out.mem, N5.out.go, ⟨?_, HN.out, fun q hq => .inl hq, fun q hq _ => Sto.put_ne _ _ (fun e => hq (by rw [e]; exact HT.out.mem))⟩, HT.out.2.1, HX.out, ?_, ?_⟩
  · exact set_tr HT.out HN.out HP.out (Sto.put_at _ _ _) fun q hq => Sto.put_ne _ _ hq
  · rw [Nd.es_mk, ← HU.out]; simp; omega
  · rw [Nd.es_mk, ← HU.out]; simp; omega
theorem post_cons (e : En) (E : List En) (l : List En) (LB : List (List En)) : post (e :: E) (l :: LB) = e :: (l ++ post E LB) := rfl
theorem Stp.entry {h S : Nat} {M M1 : Sto} {p : Nat} {es es' : List En} {bs : List Nd} {cs A A' : List Nat} (s : Stp h S M M1 p ⟨es, bs⟩ A A') (hp : M1 p = some ⟨es, cs⟩) (hA : p ∈ A) : Stp h S M (M1.put p ⟨es', cs⟩) p ⟨es', bs⟩ A A' :=
  ⟨set_tr s.tr s.nd hp (Sto.put_at _ _ _) fun q hq => Sto.put_ne _ _ hq, s.nd, s.sub, fun q hq hS => (Sto.put_ne _ _ (fun e => hq (by rw [e]; exact hA))).trans (s.off q hq hS)⟩
theorem own_blk {w w' : World} {g n c : Nat} {X : List En} (h : TE.OwnPg w 0 (.slice (some ⟨g, 0, none⟩) n c) X) (e : w'.heap[g]? = w.heap[g]?) : TE.OwnPg w' 0 (.slice (some ⟨g, 0, none⟩) n c) X :=
  h.keep fun q hq => by
    have e2 : g = q := by simpa [Value.ownBlock] using hq
    subst e2
    exact e
/-- Behind the child's call, and behind mend. -/
theorem mend_after {w w1 : World} {o o1 : Lab} {M M1 : Sto} {h p i : Nat} {n1 b' : Nd} {E1 E2 : List En} {B1 B2 : List Nd} {A A1 : List Nat} {nd : Nd} {k : Int} (q1 : Mem w1 o1 M1) (g : Gos o w w1 o1) (s1 : Stp (h + 1) w.heap.size M M1 p n1 A A1)
    (hn1 : n1 = ⟨E1 ++ E2, B1 ++ b' :: B2⟩) (hi : i = E1.length) (he : E1.length = B1.length) (h2 : E2.length = B2.length) (hE : E1.length + E2.length ≤ 4) (hpos : 0 < E1.length + E2.length) (o1' : ∀ b ∈ B1, Okc h b) (o2' : ∀ b ∈ B2, Okc h b)
    (sb : Shape h b') (b1 : 1 ≤ b'.es.length) (b2 : b'.es.length ≤ 4) (hl : lst (h + 1) n1 = out (lst (h + 1) nd) k) (hlen : nd.es.length = E1.length + E2.length) :
    Calls Try.prog 60 #[.pointer (some ⟨p, 0, none⟩), .int .i64 (i : Int)] w1 fun e w' => e = .returned (.tuple #[]) ∧ DropTo (h + 1) w o M p nd A k w' := by
  refine (mend_any q1 s1.tr s1.nd hn1 hi he h2 hE hpos o1' o2' sb b1 b2).mono ?_
  rintro e w' ⟨rfl, o4, M4, n4, A4, j1, j2, j3, j4, j5, j6, j7⟩
  have e1 : n1.es.length = nd.es.length := by rw [hn1, hlen]; simp
  exact ⟨rfl, o4, M4, n4, A4, j1, g.trans j2, s1.trans j3 g.size, j4, j5.trans hl, by omega, by omega⟩
set_option maxHeartbeats 4000000 in
theorem drop_any : ∀ (h : Nat) (w : World) (o : Lab) (M : Sto) (p : Nat) (nd : Nd) (A : List Nat) (k : Int), Mem w o M → Tr h M p nd A → A.Nodup → Shape h nd → Up (lst h nd) → nd.es.length ≤ 4 → 1 ≤ nd.es.length → (∃ x ∈ lst h nd, x.k = k) →
    Calls Try.prog 43 #[.pointer (some ⟨p, 0, none⟩), .int .i64 k] w fun r w' => r = .returned (.tuple #[]) ∧ DropTo h w o M p nd A k w' := by
  intro h
  induction h with
  | zero => exact fun w o M p nd A k hM t hn _ hu hl _ hk => drop_leaf w o M p nd A k hM t hn hu (by omega) (hit_mem hu hk)
  | succ h ih =>
    intro w o M p nd A k hM t hn hs hu hl hl1 hk
    have hue := es_up hs hu
    obtain ⟨B1, b, B2, en, l1, l2, l3⟩ := open_at hs (pos_le nd.es k)
    have g1 := pos_take nd.es k
    obtain ⟨es1, he1⟩ : ∃ x, x = nd.es.take (pos nd.es k) := ⟨_, rfl⟩
    obtain ⟨es2, he2⟩ : ∃ x, x = nd.es.drop (pos nd.es k) := ⟨_, rfl⟩
    have hes : nd.es = es1 ++ es2 := by rw [he1, he2, List.take_append_drop]
    have hpos' : pos nd.es k = es1.length := by rw [he1, l2, l1]
    cases hh : hit nd.es k with
    | true =>
      obtain ⟨x, hx1, hx2, hx3, hx4⟩ := hit_parts hh
      have he3 : es2 = x :: nd.es.drop (pos nd.es k + 1) := by
        have h1 := hes.symm.trans hx1
        rw [← he1] at h1
        exact List.append_cancel_left h1
      obtain ⟨E2, hE2⟩ : ∃ E, E = nd.es.drop (pos nd.es k + 1) := ⟨_, rfl⟩
      rw [← hE2] at he3
      rw [← he1] at g1 l2 en
      rw [← he2] at l3 en
      subst he3
      have hlen : nd.es.length = es1.length + (x :: E2).length := by rw [hes, List.length_append]
      clear he1 he2 l1 hx1 hE2
      have hnl : es1.length + (x :: E2).length ≤ 4 := by omega
      have hpos : pos (es1 ++ x :: E2) k = es1.length := by rw [← hes]; exact hpos'
      have hh' : hit (es1 ++ x :: E2) k = true := by rw [← hes]; exact hh
      rw [hes] at hue hl
      clear hes hpos' hh hx3 hx4
      obtain ⟨b2, B2, rfl, e2⟩ := cons_of (l := B2) (by rw [← l3]; simp)
      subst en
      obtain ⟨C1, c, C2, A1, Ab, A2, hp, lc1, lc2, rfl, k1, k2, k3⟩ := tr_one t
      have ob := (shape_one l2).1 hs
      have hAb : Ab.Nodup := by simp only [List.nodup_cons, List.nodup_append] at hn; exact hn.2.2.1.1
      have hlt := tr_lt hM t
      have hpA : p ∉ Ab := by simp only [List.nodup_cons, List.mem_append, not_or] at hn; exact hn.1.2.1
      have hlst := fun (y : En) (b' : Nd) => lst_one (h := h) l2 (y :: E2) b' (b2 :: B2) l3
      simp only [List.map_cons, post_cons] at hlst
      have HL : Hid (∀ y b', lst h b = lst h b' ++ [y] → lst (h + 1) ⟨es1 ++ y :: E2, B1 ++ b' :: b2 :: B2⟩ = out (lst (h + 1) ⟨es1 ++ x :: E2, B1 ++ b :: b2 :: B2⟩) k) := fun y b' hy => by
        have h1 := hlst x b
        rw [hy] at h1
        rw [h1] at hu
        have h2 : pre es1 (B1.map (lst h)) ++ (lst h b' ++ [y] ++ x :: (lst h b2 ++ post E2 (B2.map (lst h)))) = (pre es1 (B1.map (lst h)) ++ (lst h b' ++ [y])) ++ x :: (lst h b2 ++ post E2 (B2.map (lst h))) := by simp
        rw [h2] at hu h1
        rw [h1, (up_here (t := ⟨#[]⟩) hu hx2).2, hlst y b']
        simp
      -- the child's call, laid at its own nodes
      have HT : Hid (∀ W, Below w.heap.size w W → Calls Try.prog 59 #[.pointer (some ⟨c, 0, none⟩)] W fun r w' => ∃ y, r = .returned (.agg #[.int .i64 y.k, .string y.t]) ∧ (∀ kk i, o kk = some (p, i) → w'.heap[kk]? = w.heap[kk]?) ∧
          ∃ o1 M1 b' Ab', Mem w' o1 M1 ∧ Gos o w w' o1 ∧ Stp (h + 1) w.heap.size M M1 p ⟨es1 ++ x :: E2, B1 ++ b' :: b2 :: B2⟩ (p :: (A1 ++ (Ab ++ A2))) (p :: (A1 ++ (Ab' ++ A2))) ∧ M1 p = some ⟨es1 ++ x :: E2, C1 ++ c :: C2⟩ ∧
            (∀ kk i, o kk = some (p, i) → o1 kk = some (p, i)) ∧ Shape h b' ∧ lst h b = lst h b' ++ [y] ∧ 1 ≤ b'.es.length ∧ b'.es.length ≤ 4) := fun W hb => by
        refine (take_any h W (o.only Ab) (M.only Ab) c b Ab ((hM.below hb).only Ab) k2.only hAb ob.2.2.1.2.2 (by have := ob.2.2.1.1; omega) ob.2.2.1.2.1).mono ?_
        rintro r w' ⟨y, rfl, o', M', b', Ab', q1, q2, q3, q4, q5, q6, q7⟩
        obtain ⟨f1, f2, f3, f4⟩ := frame (hM.below hb) q1 q2 q3
        obtain ⟨s1, s2⟩ := put_join hM hp k1 k3 t hn (f3.lower hb.size)
        refine ⟨y, rfl, fun kk i hk => ((f4 kk p i hk hpA).1).trans (hb.block kk (hM.lt kk (by rw [hk]; simp))), _, _, b', Ab', f1, goes_pre hb f2, s1, s2, fun kk i hk => (f4 kk p i hk hpA).2, q4, q5, by have := ob.2.2.1.1; omega, by have := ob.2.2.1.2.1; omega⟩
      -- the walk
      obtain ⟨ae, ce, ab, cb, op⟩ := hM.open_ hp
      obtain ⟨ge, ce', e, -⟩ := op.e.some (by simp; omega)
      injection e with e3 _ e4
      subst e3; subst e4
      obtain ⟨gb, go, rfl, d1⟩ := op.kid (j := es1.length) (c := c) (get_mid _ _ _ (by omega))
      have KF := hid (find_any _ p _ _ ce _ cb op hue (by simp only; omega) k)
      have KL : Hid (∀ w1, Below w.heap.size w w1 → Calls Try.prog 56 #[.pointer (some ⟨p, 0, none⟩)] w1 fun e w' => e = .returned (.bool false) ∧ w' = w1) := fun w1 hb => by
        have := last_any w1 p _ _ ce _ cb (op.below hb)
        rw [show ((C1 ++ c :: C2).length == 0) = false by simp] at this
        exact this
      have q1 := op.at_.c0
      have q2 := op.at_.c1
      have ap := hM.apart hp op
      have OP := hid op
      have KM := hid (fun (w1 : World) (o1 : Lab) (M1 : Sto) (b' : Nd) (Ab' : List Nat) (y : En) (m1 : Mem w1 o1 M1) (m2 : Gos o w w1 o1) (m3 : Stp (h + 1) w.heap.size M M1 p ⟨es1 ++ y :: E2, B1 ++ b' :: b2 :: B2⟩ (p :: (A1 ++ (Ab ++ A2))) (p :: (A1 ++ (Ab' ++ A2)))) (m4 : Shape h b') (m5 : lst h b = lst h b' ++ [y]) (m6 : 1 ≤ b'.es.length) (m7 : b'.es.length ≤ 4) =>
        mend_after (k := k) (nd := ⟨es1 ++ x :: E2, B1 ++ b :: b2 :: B2⟩) m1 m2 m3 rfl rfl l2 (E2 := y :: E2) (by simpa using l3) (by simpa using hnl) (by simp; omega) ob.2.1 ob.2.2.2 m4 m6 m7 (HL.out y b' m5) (by simp))
      have HAP := hid ap
      have hXn : (es1 ++ x :: E2).length = es1.length + E2.length + 1 := by simp; omega
      have hCn : es1.length < (C1 ++ c :: C2).length := by simp; omega
      have hE0 := hid (get_mid es1 x E2 (rfl : es1.length = es1.length))
      simp only at KF q1 q2
      rw [hh', hpos] at KF
      obtain ⟨P, hP⟩ : ∃ P, P = es1.length := ⟨_, rfl⟩
      obtain ⟨NX, hNX⟩ : ∃ N, N = (es1 ++ x :: E2).length := ⟨_, rfl⟩
      obtain ⟨CN, hCN⟩ : ∃ N, N = (C1 ++ c :: C2).length := ⟨_, rfl⟩
      have OE : Hid (TE.OwnPg w 0 (.slice (some ⟨ge, 0, none⟩) NX ce) (es1 ++ x :: E2)) := by rw [hNX]; exact op.e
      have hSet : Hid (∀ y, (es1 ++ x :: E2).set P y = es1 ++ y :: E2) := fun y => set_mid _ _ _ _ hP
      have HNX := hid hNX
      rw [← hNX] at q1 hXn
      rw [← hCN] at q2 hCn
      rw [← hP] at KF d1 hXn hCn hE0 KM
      have k0 : (0 : Int) ≤ (P : Int) := by omega
      have k4 : (P : Int) < (CN : Int) := by omega
      have k5 : (P : Int) < (NX : Int) := by omega
      have hpm : Hid (p ∈ p :: (A1 ++ (Ab ++ A2))) := by show _ ∈ _; simp
      have HM := hid hM
      have plt : Hid (p < w.heap.size) := op.at_.lt
      have glt : Hid (ge < w.heap.size) := (op.e.lt ge rfl).2
      have frp : Hid (w.frozen? ⟨ge, P * 2, none⟩ = false ∧ w.frozen? ⟨ge, P * 2 + 1, none⟩ = false) := ⟨op.e.fz _, op.e.fz _⟩
      clear hM t hn hs hu hl hl1 hk hue ih l2 l3 g1 hh' hpos hP hNX hCN hp lc1 lc2 k1 k2 k3 ob hAb hlt hpA hlst OP op ap hx2 hnl hlen e2 HL
      go_enter Try.func43, Try.ntmps43
      go_wp2_with fail
      refine KF.out.mono ?_
      rintro r w2 ⟨rfl, hb2⟩
      have KL2 := hid (KL.out w2 hb2)
      have B2' := hid hb2
      have q3 := TE.keep1 hb2 q1
      have q4 := TE.keep1 hb2 q2
      have d3 := TE.keep1 hb2 d1
      clear hb2 KF KL
      go_wp2_with fail
      refine KL2.out.mono ?_
      rintro r w3 ⟨rfl, rfl⟩
      clear KL2
      go_upto_region 4 with fail
      go_cut [] from 26 to 39 (fun wx => Hid (∃ o1 M1 b' Ab' y, Mem wx o1 M1 ∧ Gos o w wx o1 ∧ Stp (h + 1) w.heap.size M M1 p ⟨es1 ++ y :: E2, B1 ++ b' :: b2 :: B2⟩ (p :: (A1 ++ (Ab ++ A2))) (p :: (A1 ++ (Ab' ++ A2))) ∧ Shape h b' ∧ lst h b = lst h b' ++ [y] ∧ 1 ≤ b'.es.length ∧ b'.es.length ≤ 4))
      case first =>
        go_region_with ((go_at_call 59; refine (HT.out _ (B2'.out.drew)).mono ?_; rintro r w4 ⟨⟨yk, yt⟩, rfl, hp4, o1, M1, b', Ab', j1, j2, j3, j4, j5, j6, j7, j8, j9⟩; have z0 := (World.cell?_of_block (a := ⟨p, 0, none⟩) (hp4 p 0 HAP.out.self)).trans q1; have O4 := hid (own_blk OE.out (hp4 ge 1 (HAP.out.e _ _ _ rfl))); obtain ⟨z1, z2⟩ := O4.out.cells hE0.out; have z3 := O4.out.fz (P * 2); have z4 := O4.out.fz (P * 2 + 1); have J := hid (⟨⟨j1, j2⟩, j3, j4, j5, j6, j7, j8, j9, z0⟩ : Now w o w4 o1 M1 ∧ _ ∧ _ ∧ _ ∧ _ ∧ _ ∧ _ ∧ _ ∧ _); clear hp4 j1 j2 j3 j4 j5 j6 j7 j8 j9))
        all_goals (go_wp2_with fail; go_meet; case rel => (obtain ⟨J1, J2, J3, J4, J5, J6, J7, J8, J9⟩ := J.out; have J10 := J1.entry J3 J9 O4.out P (by rw [← HNX.out]; omega) yk yt; exact ⟨o1, _, b', Ab', ⟨yk, yt⟩, J10.mem, J10.go, by rw [hSet.out]; exact J2.entry J3 hpm.out, J5, J6, J7, J8⟩))
      case rest =>
        obtain ⟨o1, M1, b', Ab', y, j1, j2, j3, j4, j5, j6, j7⟩ := hcut.out
        have KM2 := hid (KM.out wc o1 M1 b' Ab' y j1 j2 j3 j4 j5 j6 j7)
        clear hcut KM HT j1 j2 j3 j4 j5 j6 j7 q1 q2 q3 q4 d1 d3
        go_wp2_with fail
        refine KM2.out.mono ?_
        rintro r w9 ⟨rfl, hD⟩
        have HD := hid hD
        clear hD KM2
        go_wp2_with fail
        go_end0
        exact ⟨rfl, HD.out⟩
    | false =>
      have g2 := hit_gt hue hh
      rw [← he1] at g1 l2 en
      rw [← he2] at g2 l3 en
      have hlen : nd.es.length = es1.length + es2.length := by rw [hes, List.length_append]
      have hnl : es1.length + es2.length ≤ 4 := by omega
      have hn1 : 0 < es1.length + es2.length := by omega
      have hpos : pos (es1 ++ es2) k = es1.length := by rw [← hes]; exact hpos'
      have hh' : hit (es1 ++ es2) k = false := by rw [← hes]; exact hh
      rw [hes] at hue hl
      clear he1 he2 l1 hes hpos' hh hlen
      subst en
      obtain ⟨C1, c, C2, A1, Ab, A2, hp, lc1, lc2, rfl, k1, k2, k3⟩ := tr_one t
      have ob := (shape_one l2).1 hs
      have hAb : Ab.Nodup := by simp only [List.nodup_cons, List.nodup_append] at hn; exact hn.2.2.1.1
      obtain ⟨bP, -, bu⟩ := beside l2 l3 hu g1 (fun x hx => by have := g2 x hx; omega)
      have hQ := beside_gt l2 l3 hu g2
      have hlst := fun (b' : Nd) => lst_one (h := h) l2 es2 b' B2 l3
      have hkb : ∃ x ∈ lst h b, x.k = k := by
        obtain ⟨x, hx, hxk⟩ := hk
        rw [hlst b] at hx
        rcases List.mem_append.1 hx with hx | hx
        · have := bP x hx; omega
        · rcases List.mem_append.1 hx with hx | hx
          · exact ⟨x, hx, hxk⟩
          · have := hQ x hx; omega
      have IH : Hid (∀ W, Below w.heap.size w W → Calls Try.prog 43 #[.pointer (some ⟨c, 0, none⟩), .int .i64 k] W fun r w' => r = .returned (.tuple #[]) ∧
          Calls Try.prog 60 #[.pointer (some ⟨p, 0, none⟩), .int .i64 (es1.length : Int)] w' fun e w'' => e = .returned (.tuple #[]) ∧ DropTo (h + 1) w o M p ⟨es1 ++ es2, B1 ++ b :: B2⟩ (p :: (A1 ++ (Ab ++ A2))) k w'') := fun W hb => by
        refine (ih W o M c b Ab k (hM.below hb) k2 hAb ob.2.2.1.2.2 bu ob.2.2.1.2.1 (by have := ob.2.2.1.1; omega) hkb).mono ?_
        rintro r w' ⟨rfl, o', M', b', Ab', q1, q2, q3, q4, q5, q6, q7⟩
        obtain ⟨s1, s2⟩ := put_join hM hp k1 k3 t hn (q3.lower hb.size)
        refine ⟨rfl, mend_after (k := k) (nd := ⟨es1 ++ es2, B1 ++ b :: B2⟩) q1 (goes_pre hb q2) s1 rfl rfl l2 l3 hnl hn1 ob.2.1 ob.2.2.2 q4 (by have := ob.2.2.1.1; omega) (by have := ob.2.2.1.2.1; omega) ?_ (by simp)⟩
        rw [hlst b', hlst b, q5, out_mid bP hQ]
      obtain ⟨ae, ce, ab, cb, op⟩ := hM.open_ hp
      obtain ⟨gb, go, rfl, d1⟩ := op.kid (j := es1.length) (c := c) (get_mid _ _ _ (by omega))
      have KF := hid (find_any _ p _ _ ce _ cb op hue (by simp only; omega) k)
      have KL : Hid (∀ w1, Below w.heap.size w w1 → Calls Try.prog 56 #[.pointer (some ⟨p, 0, none⟩)] w1 fun e w' => e = .returned (.bool false) ∧ w' = w1) := fun w1 hb => by
        have := last_any w1 p _ _ ce _ cb (op.below hb)
        rw [show ((C1 ++ c :: C2).length == 0) = false by simp] at this
        exact this
      have q2 := op.at_.c1
      have hCn : es1.length < (C1 ++ c :: C2).length := by simp; omega
      simp only at KF q2
      rw [hh', hpos] at KF
      obtain ⟨P, hP⟩ : ∃ P, P = es1.length := ⟨_, rfl⟩
      obtain ⟨CN, hCN⟩ : ∃ N, N = (C1 ++ c :: C2).length := ⟨_, rfl⟩
      rw [← hCN] at q2 hCn
      rw [← hP] at KF d1 hCn IH
      have k0 : (0 : Int) ≤ (P : Int) := by omega
      have k4 : (P : Int) < (CN : Int) := by omega
      clear hM t hn hs hu hl hl1 hk hue ih l2 l3 g1 g2 hh' hpos hP hCN hp lc1 lc2 k1 k2 k3 ob hAb hlst op hnl hn1 bP bu hQ hkb
      go_enter Try.func43, Try.ntmps43
      go_wp2_with fail
      refine KF.out.mono ?_
      rintro r w2 ⟨rfl, hb2⟩
      have KL2 := hid (KL.out w2 hb2)
      have IH2 := hid (IH.out w2 hb2)
      have q4 := TE.keep1 hb2 q2
      have d3 := TE.keep1 hb2 d1
      clear hb2 KF KL q2 d1 IH
      go_wp2_with fail
      refine KL2.out.mono ?_
      rintro r w3 ⟨rfl, rfl⟩
      clear KL2
      go_wp2_with fail
      refine IH2.out.mono ?_
      rintro r w4 ⟨rfl, hK⟩
      have KM := hid hK
      clear hK IH2 q4 d3
      go_wp2_with fail
      refine KM.out.mono ?_
      rintro r w9 ⟨rfl, hD⟩
      have HD := hid hD
      clear hD KM
      go_wp2_with fail
      go_end0
      exact ⟨rfl, HD.out⟩
end Go.Proofs.Ytlefcjgemojhpab.PTree
