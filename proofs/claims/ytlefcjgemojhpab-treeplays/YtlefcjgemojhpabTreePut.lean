/- tree's put, walked: a key that was not there is, at its place; the node may have one key too many, no other has. -/
import Derived.Test.YtlefcjgemojhpabTreeMend
namespace Go.Proofs.Ytlefcjgemojhpab.PTree
open Go Go.RowKit PPool
set_option maxRecDepth 100000
theorem Stp.lower {h S S1 : Nat} {M M' : Sto} {p : Nat} {n : Nd} {A A' : List Nat} (s : Stp h S1 M M' p n A A') (hS : S ≤ S1) : Stp h S M M' p n A A' :=
  ⟨s.tr, s.nd, fun q hq => (s.sub q hq).imp id fun e => Nat.le_trans hS e, fun q hq h => s.off q hq (Nat.lt_of_lt_of_le h hS)⟩
def PutTo (h : Nat) (w : World) (o : Lab) (M : Sto) (p : Nat) (n : Nd) (A : List Nat) (e : En) (w' : World) : Prop := ∃ o' M' n' A', Mem w' o' M' ∧ Gos o w w' o' ∧ Stp h w.heap.size M M' p n' A A' ∧
  Shape h n' ∧ lst h n' = up (lst h n) e ∧ n.es.length ≤ n'.es.length ∧ n'.es.length ≤ n.es.length + 1
theorem goes_pre {o b : Lab} {w w1 w2 : World} (hb : Below w.heap.size w w1) (g : Gos o w1 w2 b) : Gos o w w2 b := (Gos.of_below hb).trans g
theorem PutTo.pre {h : Nat} {w w1 w' : World} {o : Lab} {M : Sto} {p : Nat} {n : Nd} {A : List Nat} {e : En} (hb : Below w.heap.size w w1) (h1 : PutTo h w1 o M p n A e w') : PutTo h w o M p n A e w' := by
  obtain ⟨o', M', n', A', k1, k2, k3, k4⟩ := h1
  exact ⟨o', M', n', A', k1, goes_pre hb k2, k3.lower hb.size, k4⟩
theorem set_tr {h : Nat} {M M' : Sto} {p : Nat} {n : Nd} {A : List Nat} {es' : List En} {cs : List Nat} (t : Tr h M p n A) (hn : A.Nodup) (hp : M p = some ⟨n.es, cs⟩) (hp' : M' p = some ⟨es', cs⟩) (off : ∀ q, q ≠ p → M' q = M q) : Tr h M' p ⟨es', n.bs⟩ A := by
  obtain ⟨cs', A', h1, h2, rfl⟩ := tr_iff.1 t
  rw [hp] at h1
  cases h1
  exact tr_iff.2 ⟨cs, A', hp', h2.keep fun q hq => off q (fun e => by subst e; exact (List.nodup_cons.1 hn).1 hq), rfl⟩
theorem up_at {es : List En} {e : En} (hu : Up es) (hh : hit es e.k = false) : es.take (pos es e.k) ++ e :: es.drop (pos es e.k) = up es e := by
  have h := up_mid (P := es.take (pos es e.k)) (M := []) (Q := es.drop (pos es e.k)) (pos_take es e.k) (hit_gt hu hh)
  simp only [List.nil_append, List.take_append_drop] at h
  rw [h, up_nil]
  rfl
theorem hit_no {es : List En} {k : Int} (h : ∀ x ∈ es, x.k ≠ k) : hit es k = false := decide_eq_false (by rintro ⟨x, hx, hk⟩; exact h x (List.mem_of_getElem? hx) hk)
set_option maxHeartbeats 4000000 in
theorem put_leaf (w : World) (o : Lab) (M : Sto) (p : Nat) (nd : Nd) (A : List Nat) (e : En) (hM : Mem w o M) (t : Tr 0 M p nd A) (hn : A.Nodup) (hu : Up nd.es) (hl : nd.es.length ≤ 5) (hh : hit nd.es e.k = false) :
    Calls Try.prog 45 #[.pointer (some ⟨p, 0, none⟩), .agg #[.int .i64 e.k, .string e.t]] w fun r w' => r = .returned (.tuple #[]) ∧ PutTo 0 w o M p nd A e w' := by
  obtain ⟨cs, hp⟩ := t.head
  have hz := kids_zero t hp
  subst hz
  have HU := hid (up_at hu hh)
  have HT := hid t
  have HN := hid hn
  have HP := hid hp
  have HPL := hid (pos_le nd.es e.k)
  have N0 : Hid (Now w o w o M) := ⟨hM, Gos.refl _ _⟩
  have N1 : Hid (Now w o (w.alloc (.cells #[.int .i64 e.k, .string e.t] 87)) o M) := N0.out.below (bx _ _)
  have b1 := TE.box2 (w := w) (x := .int .i64 e.k) (y := .string e.t) (T := 87) (Below.refl _ _)
  obtain ⟨ae, ce, ab, cb, op⟩ := N1.out.mem.open_ hp
  have KF := hid (find_any _ p _ ae ce ab cb op hu (by simp only; omega) e.k)
  have KL : Hid (∀ w1, Below (w.alloc (.cells #[.int .i64 e.k, .string e.t] 87)).heap.size (w.alloc (.cells #[.int .i64 e.k, .string e.t] 87)) w1 → Calls Try.prog 56 #[.pointer (some ⟨p, 0, none⟩)] w1 fun e w' => e = .returned (.bool true) ∧ w' = w1) := fun w1 hb => last_any w1 p _ ae ce ab cb (op.below hb)
  simp only at KF
  rw [hh] at KF
  obtain ⟨P, hP⟩ : ∃ P, P = pos nd.es e.k := ⟨_, rfl⟩
  rw [← hP] at KF HU HPL
  clear hM t hn hu hh hP op hp
  obtain ⟨ek, et⟩ := e
  simp only at KF KL b1 N1 HU ⊢
  go_enter Try.func45, Try.ntmps45
  go_upto_region 1 with fail
  generalize hw1 : w.alloc (.cells #[.int .i64 ek, .string et] 87) = w1 at *
  have hbw : Hid (Below w.heap.size w w1) := by rw [← hw1]; exact bx _ _
  generalize hbx : w.heap.size = vb at *
  have HBX := hid hbx
  clear hw1 hbx
  obtain ⟨b1, b2⟩ := b1
  go_wp2_with fail
  refine KF.out.mono ?_
  rintro r w2 ⟨rfl, hb2⟩
  have N2 := hid (N1.out.below hb2)
  have x1 := TE.keep1 hb2 b1
  have x2 := TE.keep1 hb2 b2
  have KL2 := hid (KL.out w2 hb2)
  clear hb2 KF KL N1 b1 b2 N0
  go_wp2_with fail
  refine KL2.out.mono ?_
  rintro r w3 ⟨rfl, rfl⟩
  clear KL2
  go_upto_region 3 with fail
  obtain ⟨ae, ce, ab, cb, op⟩ := N2.out.mem.open_ HP.out
  have q2 := op.at_.c0
  have q2f := op.at_.f0
  have plt := op.at_.lt
  have ap := N2.out.mem.apart HP.out op
  have m1 : Hid (¬ ownB (.slice ae nd.es.length ce) p) := not_own ap.e ap.self (by simp)
  have OE := hid op.e
  simp only at q2 OE
  clear op ap
  have q2a : ∀ o, (w3.alloc o).cell? ⟨p, 0, none⟩ = some (.slice ae nd.es.length ce) := fun o => TE.keep1 (bx _ _) q2
  obtain ⟨X3, hX3⟩ : ∃ X3, X3 = nd.es.take P ++ (⟨ek, et⟩ : En) :: nd.es.drop P := ⟨_, rfl⟩
  have HX3 := hid hX3
  clear hX3
  go_cut [] from 15 to 25 (fun wx => Hid (∃ o2, Now w o wx o2 (M.put p ⟨X3, []⟩)))
  case first =>
    go_region_with ((go_at_call 61; refine (insE (X := nd.es) P rfl (OE.out.below (ad _ _)) (show (w3.alloc _).heap[w3.heap.size]? = _ from heap_alloc_new w3 _) (own_alloc_ne OE.out) (by omega) HPL.out).mono ?_; rintro r3 w4 ⟨v3, rfl, ho3, g3⟩; rw [← HX3.out] at ho3; obtain ⟨a3, c3, rfl, -⟩ := ho3.at_; have z1 := goes_cell g3 (TE.keep1 (ad _ _) q2) m1.out; have z2 := goes_frz g3 ((ad w3 _).frozen (p := ⟨p, 0, none⟩) plt |>.trans q2f) (by simp; omega) m1.out; have G3 := hid ((N2.out.below (ad _ _)).setE HP.out (TE.keep1 (ad _ _) q2) g3 ho3 rfl); clear ho3 g3))
    all_goals (go_wp2_with fail; go_meet; case rel => exact G3)
  case rest =>
    go_wp2_with fail
    refine bodyPost_ret (results_none rfl _ _ _) rfl ?_
    obtain ⟨o2, N5⟩ := hcut.out
    refine ⟨rfl, o2, _, ⟨X3, nd.bs⟩, A, N5.mem, N5.go, ⟨?_, HN.out, fun q hq => .inl hq, fun q hq _ => Sto.put_ne _ _ (fun e => hq (by rw [e]; exact HT.out.mem))⟩, HT.out.2.1, ?_, ?_, ?_⟩
    · exact set_tr HT.out HN.out HP.out (Sto.put_at _ _ _) fun q hq => Sto.put_ne _ _ hq
    · show X3 = _
      rw [HX3.out]; exact HU.out
    · have := HPL.out; rw [HX3.out]; simp; omega
    · have := HPL.out; rw [HX3.out]; simp; omega
theorem put_join {h : Nat} {w : World} {o : Lab} {M M1 : Sto} {p c : Nat} {es : List En} {B1 B2 : List Nd} {b b' : Nd} {C1 C2 A1 Ab A2 Ab' : List Nat} (hM : Mem w o M)
    (hp : M p = some ⟨es, C1 ++ c :: C2⟩) (k1 : Rws (Tr h M) B1 C1 A1) (k2 : Rws (Tr h M) B2 C2 A2) (t : Tr (h + 1) M p ⟨es, B1 ++ b :: B2⟩ (p :: (A1 ++ (Ab ++ A2)))) (hn : (p :: (A1 ++ (Ab ++ A2))).Nodup)
    (st : Stp h w.heap.size M M1 c b' Ab Ab') : Stp (h + 1) w.heap.size M M1 p ⟨es, B1 ++ b' :: B2⟩ (p :: (A1 ++ (Ab ++ A2))) (p :: (A1 ++ (Ab' ++ A2))) ∧ M1 p = some ⟨es, C1 ++ c :: C2⟩ := by
  have hlt := tr_lt hM t
  refine ⟨Stp.child hp k1 k2 hn hlt st, ?_⟩
  rw [st.off p (by simp only [List.nodup_cons, List.mem_append, not_or] at hn; exact hn.1.2.1) (hlt p (by simp))]
  exact hp
set_option maxHeartbeats 4000000 in
theorem put_any : ∀ (h : Nat) (w : World) (o : Lab) (M : Sto) (p : Nat) (nd : Nd) (A : List Nat) (e : En), Mem w o M → Tr h M p nd A → A.Nodup → Shape h nd → Up (lst h nd) → nd.es.length ≤ 4 → (∀ x ∈ lst h nd, x.k ≠ e.k) →
    Calls Try.prog 45 #[.pointer (some ⟨p, 0, none⟩), .agg #[.int .i64 e.k, .string e.t]] w fun r w' => r = .returned (.tuple #[]) ∧ PutTo h w o M p nd A e w' := by
  intro h
  induction h with
  | zero => exact fun w o M p nd A e hM t hn _ hu hl hk => put_leaf w o M p nd A e hM t hn hu (by omega) (hit_no hk)
  | succ h ih =>
    intro w o M p nd A e hM t hn hs hu hl hk
    have hue := es_up hs hu
    have hh : hit nd.es e.k = false := hit_no fun x hx => hk x ((es_sub hs).subset hx)
    obtain ⟨B1, b, B2, en, l1, l2, l3⟩ := open_at hs (pos_le nd.es e.k)
    have g1 := pos_take nd.es e.k
    have g2 := hit_gt hue hh
    obtain ⟨es1, he1⟩ : ∃ x, x = nd.es.take (pos nd.es e.k) := ⟨_, rfl⟩
    obtain ⟨es2, he2⟩ : ∃ x, x = nd.es.drop (pos nd.es e.k) := ⟨_, rfl⟩
    have hes : nd.es = es1 ++ es2 := by rw [he1, he2, List.take_append_drop]
    rw [← he1] at g1 l2 en
    rw [← he2] at g2 l3 en
    have hpos : pos (es1 ++ es2) e.k = es1.length := by rw [← hes, l2, l1]
    rw [hes] at hh hl hue
    clear he1 he2 l1 hes
    subst en
    obtain ⟨C1, c, C2, A1, Ab, A2, hp, lc1, lc2, rfl, k1, k2, k3⟩ := tr_one t
    obtain ⟨bP, -, bu⟩ := beside l2 l3 hu g1 (fun x hx => by have := g2 x hx; omega)
    have hQ := beside_gt l2 l3 hu g2
    have ob := (shape_one l2).1 hs
    have hlst := lst_one (h := h) l2 es2 b B2 l3
    have hkb : ∀ x ∈ lst h b, x.k ≠ e.k := fun x hx => hk x (by rw [hlst]; simp [hx])
    have hAb : Ab.Nodup := by simp only [List.nodup_cons, List.nodup_append] at hn; exact hn.2.2.1.1
    have IH : Hid (∀ w1, Below w.heap.size w w1 → Calls Try.prog 45 #[.pointer (some ⟨c, 0, none⟩), .agg #[.int .i64 e.k, .string e.t]] w1 fun r w' => r = .returned (.tuple #[]) ∧ PutTo h w o M c b Ab e w') := fun w1 hb =>
      (ih w1 o M c b Ab e (hM.below hb) k2 hAb ob.2.2.1.2.2 bu ob.2.2.1.2.1 hkb).mono fun r w' ⟨hr, hp⟩ => ⟨hr, hp.pre hb⟩
    have HB : Hid (∀ w1, PutTo h w o M c b Ab e w1 → ∃ o1 M1 b' Ab', Mem w1 o1 M1 ∧ Gos o w w1 o1 ∧ Stp (h + 1) w.heap.size M M1 p ⟨es1 ++ es2, B1 ++ b' :: B2⟩ (p :: (A1 ++ (Ab ++ A2))) (p :: (A1 ++ (Ab' ++ A2))) ∧ M1 p = some ⟨es1 ++ es2, C1 ++ c :: C2⟩ ∧ Tr h M1 c b' Ab' ∧
        Shape h b' ∧ lst (h + 1) ⟨es1 ++ es2, B1 ++ b' :: B2⟩ = up (lst (h + 1) ⟨es1 ++ es2, B1 ++ b :: B2⟩) e ∧ 2 ≤ b'.es.length ∧ b'.es.length ≤ 5) := by
      rintro w1 ⟨o1, M1, b', Ab', q1, q2, q3, q4, q5, q6, q7⟩
      obtain ⟨s1, s2⟩ := put_join hM hp k1 k3 t hn q3
      refine ⟨o1, M1, b', Ab', q1, q2, s1, s2, q3.tr, q4, ?_, by have := ob.2.2.1.1; omega, by have := ob.2.2.1.2.1; omega⟩
      rw [lst_one l2 es2 b' B2 l3, hlst, q5, up_mid bP hQ]
    have HS : Hid (∀ b', Shape h b' → 2 ≤ b'.es.length → b'.es.length ≤ 4 → Shape (h + 1) ⟨es1 ++ es2, B1 ++ b' :: B2⟩) := fun b' q1 q2 q3 => (shape_one l2).2 ⟨l3, ob.2.1, ⟨q2, q3, q1⟩, ob.2.2.2⟩
    have HSP := hid (fun (w1 : World) (o1 : Lab) (M1 : Sto) (A1 : List Nat) (L R : List En) (m : En) (B : List Nd) (hM1 : Mem w1 o1 M1) (t1 : Tr (h + 1) M1 p ⟨es1 ++ es2, B1 ++ ⟨L ++ m :: R, B⟩ :: B2⟩ A1) (hn1 : A1.Nodup) (sl : Shape h ⟨L ++ m :: R, B⟩) (hL : L.length = 2) (hR : R.length = 2) =>
      split_one_any (i := C1.length) hM1 t1 hn1 (by omega) l2 l3 (by simp at hl; omega) ob.2.1 ob.2.2.2 sl hL hR)
    have hle : Hid ((es1 ++ es2).length = es1.length + es2.length) := List.length_append ..
    -- the walk
    have N1 : Hid (Mem (w.alloc (.cells #[.int .i64 e.k, .string e.t] 87)) o M) := hM.below (bx _ _)
    have b1 := TE.box2 (w := w) (x := .int .i64 e.k) (y := .string e.t) (T := 87) (Below.refl _ _)
    obtain ⟨ae, ce, ab, cb, op⟩ := N1.out.open_ hp
    have KF := hid (find_any _ p _ ae ce ab cb op hue (by simp only; omega) e.k)
    have KL : Hid (∀ w1, Below (w.alloc (.cells #[.int .i64 e.k, .string e.t] 87)).heap.size (w.alloc (.cells #[.int .i64 e.k, .string e.t] 87)) w1 → Calls Try.prog 56 #[.pointer (some ⟨p, 0, none⟩)] w1 fun e w' => e = .returned (.bool false) ∧ w' = w1) := fun w1 hb => by
      have := last_any w1 p _ ae ce ab cb (op.below hb)
      rw [show ((C1 ++ c :: C2).length == 0) = false by simp] at this
      exact this
    have KD : Hid (∀ w1, Below (w.alloc (.cells #[.int .i64 e.k, .string e.t] 87)).heap.size (w.alloc (.cells #[.int .i64 e.k, .string e.t] 87)) w1 → ∃ b o, ab = some ⟨b, o, none⟩ ∧ w1.cell? ⟨b, o + C1.length, none⟩ = some (.pointer (some ⟨c, 0, none⟩)) ∧ w1.cell? ⟨p, 1, none⟩ = some (.slice ab (C1 ++ c :: C2).length cb)) := fun w1 hb => by
      obtain ⟨b, o, e, d⟩ := (op.below hb).kid (j := C1.length) (c := c) (by simp)
      exact ⟨b, o, e, d, (op.below hb).at_.c1⟩
    simp only at KF
    rw [hh, hpos, l2, ← lc1] at KF
    have RD := hid (fun (w1 : World) (o1 : Lab) (M1 : Sto) (b' : Nd) (Ab' : List Nat) (q1 : Mem w1 o1 M1) (q2 : M1 p = some ⟨es1 ++ es2, C1 ++ c :: C2⟩) (q3 : Tr h M1 c b' Ab') => reads q1 q2 (j := C1.length) (c := c) (by simp) q3.head.choose_spec)
    have hn1 : C1.length < (C1 ++ c :: C2).length := by simp
    have hn2 : (C1 ++ c :: C2).length ≤ 6 := by
      simp only [List.length_append, List.length_cons] at hl ⊢
      omega
    obtain ⟨CN, hCN⟩ : ∃ N, N = (C1 ++ c :: C2).length := ⟨_, rfl⟩
    obtain ⟨P, hP⟩ : ∃ P, P = C1.length := ⟨_, rfl⟩
    rw [← hCN] at KD hn1 hn2
    simp only [← hCN, ← hP] at RD
    rw [← hP] at KF KD hn1 HSP
    have BW : Hid (Below w.heap.size w (w.alloc (.cells #[.int .i64 e.k, .string e.t] 87))) := bx _ _
    clear hM t hn hs hu hl hk hue hh ih bP bu ob k1 k2 k3 g1 g2 l2 l3 lc1 lc2 hQ hCN hP op hpos hp hlst hkb hAb
    obtain ⟨ek, et⟩ := e
    simp only at KF KL KD b1 N1 BW IH HB
    go_enter Try.func45, Try.ntmps45
    go_upto_region 1 with fail
    generalize w.alloc (.cells #[.int .i64 ek, .string et] 87) = w1 at *
    generalize hbx : w.heap.size = vb at *
    have HBX := hid hbx
    clear hbx
    obtain ⟨b1, b2⟩ := b1
    go_wp2_with fail
    refine KF.out.mono ?_
    rintro r w2 ⟨rfl, hb2⟩
    have B2 := hid hb2
    have x1 := TE.keep1 hb2 b1
    have x2 := TE.keep1 hb2 b2
    have KL2 := hid (KL.out w2 hb2)
    obtain ⟨bb, oo, rfl, d1, d2⟩ := KD.out w2 hb2
    clear hb2 KF KL KD b1 b2
    have n0 : (0 : Int) ≤ (P : Int) := by omega
    have n1 : (P : Int) < (CN : Int) := by omega
    go_wp2_with fail
    refine KL2.out.mono ?_
    rintro r w3 ⟨rfl, rfl⟩
    clear KL2
    have IH2 : Hid (∀ W, Below w3.heap.size w3 W → Calls Try.prog 45 #[.pointer (some ⟨c, 0, none⟩), .agg #[.int .i64 ek, .string et]] W fun r w' => r = .returned (.tuple #[]) ∧ PutTo h w o M c b Ab ⟨ek, et⟩ w') := fun W hb => IH.out W (BW.out.trans ((B2.out.mono (by have := BW.out.size; have := HBX.out; omega)).trans (hb.mono (by have := B2.out.size; have := BW.out.size; have := HBX.out; omega))))
    go_upto_region 4 with fail
    go_cut [] from 26 to 34 (fun wx => Hid (PutTo h w o M c b Ab ⟨ek, et⟩ wx))
    case first =>
      go_region_with ((go_at_call 45; refine (IH2.out _ (Below.refl _ _).drew).mono ?_; rintro r w4 ⟨rfl, hP4⟩; have P4 := hid hP4; clear hP4))
      all_goals (go_wp2_with fail; go_meet; case rel => exact P4)
    case rest =>
      obtain ⟨o1, M1, b', Ab', q1, q2, s1, s2, q3, q4, q5, q6, q7⟩ := HB.out wc hcut.out
      obtain ⟨gb, go, ax, xc, cb, ac, ck, e0, e1, e2, e3⟩ := RD.out wc o1 M1 b' Ab' q1 s2 q3
      have HQ1 := hid q1
      have HQ2 := hid q2
      have HS1 := hid s1
      have HQ4 := hid q4
      have HQ5 := hid q5
      clear hcut HB RD IH IH2 q1 q2 s1 s2 q3 q4 q5 x1 x2 d1 d2 N1 B2 BW
      by_cases hb5 : b'.es.length ≤ 4
      · have k4 : ¬ (4 : Int) < (b'.es.length : Int) := by omega
        have HF := hid (HS.out b' HQ4.out q6 hb5)
        clear q6 q7
        generalize b'.es.length = bl at *
        go_wp2_with fail
        go_end0
        exact ⟨rfl, o1, M1, _, _, HQ1.out, HQ2.out, by rw [HBX.out]; exact HS1.out, HF.out, HQ5.out, Nat.le_refl _, Nat.le_succ _⟩
      · obtain ⟨be, bb'⟩ := b'
        simp only [Nd.es_mk] at hb5 q6 q7 e3
        obtain ⟨L, m, R, rfl, hL, hR⟩ : ∃ L m R, be = L ++ m :: R ∧ L.length = 2 ∧ R.length = 2 := by
          have h2 : 2 < be.length := by omega
          exact ⟨be.take 2, be[2], be.drop 3, by rw [List.getElem_cons_drop, List.take_append_drop], by rw [List.length_take]; omega, by rw [List.length_drop]; omega⟩
        have KS := hid (HSP.out wc o1 M1 _ L R m bb' HQ1.out HS1.out.tr HS1.out.nd HQ4.out hL hR)
        have e5 : (L ++ m :: R).length = 5 := by simp [hL, hR]
        rw [e5] at e3
        clear hL hR e5 hb5 q6 q7 HSP
        go_wp2_with fail
        refine KS.out.mono ?_
        rintro r w9 ⟨rfl, o2, M2, n2, A2', j1, j2, j3, j4, j5, j6⟩
        have J1 := hid j1
        have J2 := hid (HQ2.out.trans j2)
        have J3 := hid (HS1.out.trans j3 (by have := HQ2.out.size; have := HBX.out; omega))
        have J4 := hid j4
        have J5 := hid (j5.trans HQ5.out)
        have J6 := hid j6
        clear j1 j2 j3 j4 j5 j6 KS
        go_wp2_with fail
        go_end0
        exact ⟨rfl, o2, M2, n2, A2', J1.out, J2.out, by rw [HBX.out]; exact J3.out, J4.out, J5.out, by rw [J6.out, Nd.es_mk, hle.out]; omega, by rw [J6.out, Nd.es_mk, hle.out]; omega⟩
end Go.Proofs.Ytlefcjgemojhpab.PTree
