/- tree's seek, walked: it tells the node that has the key, and its place; what a new text there makes of the tree. It writes nothing that was there. -/
import Derived.Test.YtlefcjgemojhpabTreeFind
namespace Go.Proofs.Ytlefcjgemojhpab.PTree
open Go Go.RowKit PPool
set_option maxRecDepth 100000
theorem hit_true {L : List En} {k : Int} (h : hit L k = true) : ∃ E1 x E2, L = E1 ++ x :: E2 ∧ E1.length = pos L k ∧ x.k = k := by
  obtain ⟨x, hx, hk⟩ := of_decide_eq_true h
  obtain ⟨h1, h2⟩ := List.getElem?_eq_some_iff.1 hx
  refine ⟨L.take (pos L k), x, L.drop (pos L k + 1), ?_, by rw [List.length_take]; omega, hk⟩
  rw [← h2, List.getElem_cons_drop, List.take_append_drop]
theorem hit_false {L : List En} {k : Int} (hu : Up L) (h : hit L k = false) : ∀ x ∈ L, x.k ≠ k := by
  have hn := of_decide_eq_false h
  intro x hx e
  rw [← List.take_append_drop (pos L k) L] at hx
  rcases List.mem_append.1 hx with hx | hx
  · have := pos_take L k x hx; omega
  · obtain ⟨j, hj⟩ := List.getElem?_of_mem hx
    rw [List.getElem?_drop] at hj
    by_cases e0 : j = 0
    · subst e0; exact hn ⟨x, by simpa using hj, e⟩
    · obtain ⟨g1, g2⟩ := List.getElem?_eq_some_iff.1 hj
      have := List.pairwise_iff_getElem.1 hu (pos L k) (pos L k + j) (by omega) g1 (by omega)
      rw [g2] at this
      have h3 := pos_drop hu k (L[pos L k]'(by omega)) (List.mem_of_getElem? (i := 0) (by rw [List.getElem?_drop, Nat.add_zero]; exact List.getElem?_eq_getElem _))
      omega
theorem hit_gt {L : List En} {k : Int} (hu : Up L) (h : hit L k = false) : ∀ x ∈ L.drop (pos L k), k < x.k := fun x hx => by
  have h1 := pos_drop hu k x hx
  have h2 := hit_false hu h x (List.mem_of_mem_drop hx)
  omega
theorem up_here {P Q : List En} {x : En} {k : Int} {t : ByteArray} (hu : Up (P ++ x :: Q)) (hk : x.k = k) : up (P ++ x :: Q) ⟨k, t⟩ = P ++ ⟨k, t⟩ :: Q ∧ out (P ++ x :: Q) k = P ++ Q := by
  rw [Up, List.pairwise_append, List.pairwise_cons] at hu
  obtain ⟨_, ⟨h1, _⟩, h2⟩ := hu
  have hP : ∀ y ∈ P, y.k < k := fun y hy => by have := h2 y hy x (by simp); omega
  have hQ : ∀ y ∈ Q, k < y.k := fun y hy => by have := h1 y hy; omega
  constructor
  · have e := up_mid (P := P) (M := [x]) (Q := Q) (e := ⟨k, t⟩) hP hQ
    have e2 : up [x] ⟨k, t⟩ = [⟨k, t⟩] := by simp [up, hk]
    rw [e2] at e
    exact e
  · have e := out_mid (P := P) (M := [x]) (Q := Q) (k := k) hP hQ
    have e2 : out [x] k = [] := by simp [out, hk]
    rw [e2] at e
    exact e
/-- A node opened at a place. -/
theorem open_at {h : Nat} {n : Nd} (hs : Shape (h + 1) n) {i : Nat} (hi : i ≤ n.es.length) : ∃ B1 b B2, n = ⟨n.es.take i ++ n.es.drop i, B1 ++ b :: B2⟩ ∧ B1.length = i ∧ (n.es.take i).length = B1.length ∧ (n.es.drop i).length = B2.length := by
  obtain ⟨es, bs⟩ := n
  have hl := hs.1
  simp only [Nd.es_mk, Nd.bs_mk] at hl hi ⊢
  have hb : i < bs.length := by omega
  refine ⟨bs.take i, bs[i], bs.drop (i + 1), ?_, by rw [List.length_take]; omega, by rw [List.length_take, List.length_take]; omega, by rw [List.length_drop, List.length_drop]; omega⟩
  rw [List.take_append_drop, List.getElem_cons_drop, List.take_append_drop]
/-- The key is there: at that node, at that place; what a new text there makes of all. -/
structure Fnd (h : Nat) (M : Sto) (p : Nat) (n : Nd) (A : List Nat) (k : Int) (q i : Nat) (m : Nn) (x : En) : Prop where
  at_ : M q = some m
  el : m.es[i]? = some x
  key : x.k = k
  mem : q ∈ A
  small : m.es.length ≤ 2000
  row : ∃ P Q, lst h n = P ++ x :: Q
  set : ∀ (t : ByteArray) (S : Nat), (∀ r ∈ A, r < S) → A.Nodup → ∃ n', Stp h S M (M.put q ⟨m.es.set i ⟨k, t⟩, m.cs⟩) p n' A A ∧ Shape h n' ∧ n'.es.length = n.es.length ∧ lst h n' = up (lst h n) ⟨k, t⟩
theorem fnd_here {h : Nat} {M : Sto} {p : Nat} {n : Nd} {A : List Nat} {k : Int} (t : Tr h M p n A) (hs : Shape h n) (hu : Up (lst h n)) (hl : n.es.length ≤ 2000) (hh : hit n.es k = true) :
    ∃ m x, m.es = n.es ∧ Fnd h M p n A k p (pos n.es k) m x := by
  obtain ⟨cs, hp⟩ := t.head
  obtain ⟨E1, x, E2, he, hlen, hk⟩ := hit_true hh
  have hset : ∀ y : En, n.es.set (pos n.es k) y = E1 ++ y :: E2 := fun y => by
    rw [← hlen]; conv => lhs; arg 1; rw [he]
    simp
  have hrow : ∃ P Q, lst h n = P ++ x :: Q ∧ ∀ y, lst h ⟨E1 ++ y :: E2, n.bs⟩ = P ++ y :: Q := by
    have c : ∀ y, Shape h ⟨E1 ++ y :: E2, n.bs⟩ := fun y => by
      have hs' : Shape h ⟨n.es, n.bs⟩ := by rw [← Nd.eta]; exact hs
      cases h with
      | zero => exact hs'
      | succ h => exact ⟨by have := hs'.1; rw [he] at this; simpa using this, hs'.2⟩
    have e := fun y => (cut_node (c y)).2.2
    refine ⟨_, _, ?_, fun y => e y⟩
    have := e x
    rw [← he, ← Nd.eta] at this
    exact this
  obtain ⟨P, Q, r1, r2⟩ := hrow
  refine ⟨⟨n.es, cs⟩, x, rfl, hp, ?_, hk, t.mem, hl, ⟨P, Q, r1⟩, fun tx S hS hn => ⟨⟨n.es.set (pos n.es k) ⟨k, tx⟩, n.bs⟩, ⟨?_, hn, fun q hq => .inl hq, fun q hq _ => Sto.put_ne _ _ (fun e => hq (by rw [e]; exact t.mem))⟩, ?_, by simp, ?_⟩⟩
  · show n.es[pos n.es k]? = some x
    conv => lhs; arg 1; rw [he]
    rw [← hlen]; simp
  · obtain ⟨cs', A', h1, h2, rfl⟩ := tr_iff.1 t
    rw [hp] at h1
    cases h1
    refine tr_iff.2 ⟨cs, A', by rw [Sto.put_at]; rfl, h2.keep fun q hq => Sto.put_ne _ _ (fun e => by subst e; exact (List.nodup_cons.1 hn).1 hq), rfl⟩
  · have hs' : Shape h ⟨n.es, n.bs⟩ := by rw [← Nd.eta]; exact hs
    cases h with
    | zero => exact hs'
    | succ h => exact ⟨by simpa using hs'.1, hs'.2⟩
  · rw [hset, r2, r1]
    rw [r1] at hu
    exact (up_here hu hk).1.symm
theorem fnd_below {h : Nat} {M : Sto} {p c : Nat} {es1 es2 : List En} {B1 B2 : List Nd} {b : Nd} {C1 C2 A1 Ab A2 : List Nat} {k : Int} {q i : Nat} {m : Nn} {x : En} (he : es1.length = B1.length) (h2 : es2.length = B2.length)
    (hs : Shape (h + 1) ⟨es1 ++ es2, B1 ++ b :: B2⟩) (hp : M p = some ⟨es1 ++ es2, C1 ++ c :: C2⟩) (k1 : Rws (Tr h M) B1 C1 A1) (k2 : Rws (Tr h M) B2 C2 A2)
    (hP : ∀ x ∈ pre es1 (B1.map (lst h)), x.k < k) (hQ : ∀ x ∈ post es2 (B2.map (lst h)), k < x.k)
    (f : Fnd h M c b Ab k q i m x) : Fnd (h + 1) M p ⟨es1 ++ es2, B1 ++ b :: B2⟩ (p :: (A1 ++ (Ab ++ A2))) k q i m x := by
  refine ⟨f.at_, f.el, f.key, by have := f.mem; simp [this], f.small, ?_, fun t S hS hn => ?_⟩
  · obtain ⟨P, Q, e⟩ := f.row
    rw [lst_one he es2 b B2 h2, e]
    exact ⟨_, _, by rw [List.append_assoc, ← List.append_assoc]; rfl⟩
  · obtain ⟨b', s1, s2, s3, s4⟩ := f.set t S (fun r hr => hS r (by simp [hr])) (by simp only [List.nodup_cons, List.nodup_append] at hn; exact hn.2.2.1.1)
    refine ⟨⟨es1 ++ es2, B1 ++ b' :: B2⟩, Stp.child hp k1 k2 hn hS s1, ?_, rfl, ?_⟩
    · rw [shape_one he] at hs ⊢
      exact ⟨hs.1, hs.2.1, ⟨by have := hs.2.2.1.1; omega, by have := hs.2.2.1.2.1; omega, s2⟩, hs.2.2.2⟩
    · rw [lst_one he es2 b' B2 h2, lst_one he es2 b B2 h2, s4, up_mid hP hQ]
theorem Opn.below {w w' : World} {p : Nat} {n : Nn} {ae ab : Option Addr} {ce cb : Nat} (h : Opn w p n ae ce ab cb) (hb : Below w.heap.size w w') : Opn w' p n ae ce ab cb := ⟨h.at_.keep (hb.block p h.at_.lt), h.e.below hb, h.b.below hb⟩
theorem Opn.kid {w : World} {p : Nat} {n : Nn} {ae ab : Option Addr} {ce cb : Nat} (h : Opn w p n ae ce ab cb) {j c : Nat} (hj : n.cs[j]? = some c) : ∃ b o, ab = some ⟨b, o, none⟩ ∧ w.cell? ⟨b, o + j, none⟩ = some (.pointer (some ⟨c, 0, none⟩)) := by
  have e : (n.cs.map pt)[j]? = some (pt c) := by rw [List.getElem?_map, hj]; rfl
  exact (TP.own_pg h.b) j _ e
theorem Opn.ent {w : World} {p : Nat} {n : Nn} {ae ab : Option Addr} {ce cb : Nat} (h : Opn w p n ae ce ab cb) {j : Nat} {x : En} (hj : n.es[j]? = some x) : ∃ b o, ae = some ⟨b, o, none⟩ ∧ w.cell? ⟨b, o + j * 2, none⟩ = some (.int .i64 x.k) ∧ w.cell? ⟨b, o + j * 2 + 1, none⟩ = some (.string x.t) := (TE.own_pg h.e) j x hj
theorem kids_zero {M : Sto} {p : Nat} {n : Nd} {A cs : List Nat} (t : Tr 0 M p n A) (hp : M p = some ⟨n.es, cs⟩) : cs = [] := by
  rw [t.1] at hp
  cases hp; rfl
theorem beside_gt {h : Nat} {E1 E2 : List En} {B1 B2 : List Nd} {b : Nd} {k : Int} (he : E1.length = B1.length) (h2 : E2.length = B2.length)
    (hu : Up (lst (h + 1) ⟨E1 ++ E2, B1 ++ b :: B2⟩)) (hk : ∀ x ∈ E2, k < x.k) : ∀ x ∈ post E2 (B2.map (lst h)), k < x.k := by
  intro x hx
  cases E2 with
  | nil => cases B2 <;> simp [post] at hx
  | cons e E2 =>
    have ge := hk e (by simp)
    rw [lst_one he _ b B2 h2] at hu
    have hu3 := (up_parts hu).2.2
    cases B2 with
    | nil => simp at h2
    | cons b2 B2 =>
      simp only [List.map_cons, post, List.cons_append] at hx hu3
      rcases List.mem_cons.1 hx with rfl | hx
      · exact ge
      · have := (List.pairwise_cons.1 hu3).1 x hx; omega
set_option maxHeartbeats 2000000 in
theorem seek_any : ∀ (h : Nat) (w : World) (o : Lab) (M : Sto) (p : Nat) (nd : Nd) (A : List Nat) (k : Int), Mem w o M → Tr h M p nd A → Shape h nd → Up (lst h nd) → nd.es.length ≤ 2000 →
    Calls Try.prog 41 #[.pointer (some ⟨p, 0, none⟩), .int .i64 k] w fun e w' =>
      ((∃ q i m x, e = .returned (.tuple #[.pointer (some ⟨q, 0, none⟩), .int .i64 ((i : Nat) : Int)]) ∧ Fnd h M p nd A k q i m x) ∨ (e = .returned (.tuple #[.pointer none, .int .i64 0]) ∧ ∀ x ∈ lst h nd, x.k ≠ k)) ∧ Below w.heap.size w w' := by
  intro h
  induction h with
  | zero =>
    intro w o M p nd A k hm t hs hu hl
    obtain ⟨cs, hp⟩ := t.head
    have hz := kids_zero t hp
    subst hz
    obtain ⟨ae, ce, ab, cb, op⟩ := hm.open_ hp
    have KF := hid (find_any w p _ ae ce ab cb op hu hl k)
    have KL : Hid (∀ w1, Below w.heap.size w w1 → Calls Try.prog 56 #[.pointer (some ⟨p, 0, none⟩)] w1 fun e w' => e = .returned (.bool true) ∧ w' = w1) := fun w1 hb => last_any w1 p _ ae ce ab cb (op.below hb)
    cases hh : hit nd.es k with
    | true =>
      have HF := hid (fnd_here t hs hu hl hh)
      simp only at KF
      rw [hh] at KF
      obtain ⟨P, hP⟩ : ∃ P, P = pos nd.es k := ⟨_, rfl⟩
      rw [← hP] at KF HF
      clear hp op hm t hs hu hl hh hP KL
      go_enter Try.func41, Try.ntmps41
      go_wp2_with fail
      refine KF.out.mono ?_
      rintro r w1 ⟨rfl, hb⟩
      have HB := hid hb
      clear hb
      go_wp2_with fail
      go_ret2
      obtain ⟨m, x, _, f⟩ := HF.out
      exact ⟨.inl ⟨p, P, m, x, rfl, f⟩, HB.out⟩
    | false =>
      have HF := hid (hit_false hu hh)
      simp only at KF
      rw [hh] at KF
      obtain ⟨P, hP⟩ : ∃ P, P = pos nd.es k := ⟨_, rfl⟩
      rw [← hP] at KF
      clear hp op hm t hs hu hl hh hP
      go_enter Try.func41, Try.ntmps41
      go_wp2_with fail
      refine KF.out.mono ?_
      rintro r w1 ⟨rfl, hb⟩
      have HB := hid hb
      have KL1 := hid (KL.out w1 hb)
      clear hb
      go_wp2_with fail
      refine KL1.out.mono ?_
      rintro r w2 ⟨rfl, rfl⟩
      go_wp2_with fail
      go_ret2
      exact ⟨.inr ⟨rfl, HF.out⟩, HB.out⟩
  | succ h ih =>
    intro w o M p nd A k hm t hs hu hl
    obtain ⟨B1, b, B2, en, l1, l2, l3⟩ := open_at hs (pos_le nd.es k)
    have hue := es_up hs hu
    cases hh : hit nd.es k with
    | true =>
      obtain ⟨cs, hp⟩ := t.head
      obtain ⟨ae, ce, ab, cb, op⟩ := hm.open_ hp
      have KF := hid (find_any w p _ ae ce ab cb op hue hl k)
      have HF := hid (fnd_here t hs hu hl hh)
      simp only at KF
      rw [hh] at KF
      obtain ⟨P, hP⟩ : ∃ P, P = pos nd.es k := ⟨_, rfl⟩
      rw [← hP] at KF HF
      clear hp op hm t hs hu hl hh hP ih en l1 l2 l3 hue
      go_enter Try.func41, Try.ntmps41
      go_wp2_with fail
      refine KF.out.mono ?_
      rintro r w1 ⟨rfl, hb⟩
      have HB := hid hb
      clear hb
      go_wp2_with fail
      go_ret2
      obtain ⟨m, x, _, f⟩ := HF.out
      exact ⟨.inl ⟨p, P, m, x, rfl, f⟩, HB.out⟩
    | false =>
      have g1 := pos_take nd.es k
      have g2 := hit_gt hue hh
      obtain ⟨es1, he1⟩ : ∃ e, e = nd.es.take (pos nd.es k) := ⟨_, rfl⟩
      obtain ⟨es2, he2⟩ : ∃ e, e = nd.es.drop (pos nd.es k) := ⟨_, rfl⟩
      have hes : nd.es = es1 ++ es2 := by rw [he1, he2, List.take_append_drop]
      rw [← he1] at g1 l2 en
      rw [← he2] at g2 l3 en
      have hpos : pos (es1 ++ es2) k = es1.length := by rw [← hes, l2, l1]
      rw [hes] at hh hl hue
      clear he1 he2 l1 hes
      subst en
      obtain ⟨C1, c, C2, A1, Ab, A2, hp, lc1, lc2, rfl, k1, k2, k3⟩ := tr_one t
      obtain ⟨ae, ce, ab, cb, op⟩ := hm.open_ hp
      have KF := hid (find_any w p _ ae ce ab cb op hue hl k)
      simp only at KF
      rw [hh, hpos, l2, ← lc1] at KF
      have KL : Hid (∀ w1, Below w.heap.size w w1 → Calls Try.prog 56 #[.pointer (some ⟨p, 0, none⟩)] w1 fun e w' => e = .returned (.bool false) ∧ w' = w1) := fun w1 hb => by
        have := last_any w1 p _ ae ce ab cb (op.below hb)
        rw [show ((C1 ++ c :: C2).length == 0) = false by simp] at this
        exact this
      obtain ⟨bP, bQ, bu⟩ := beside l2 l3 hu g1 (fun x hx => by have := g2 x hx; omega)
      have ob := (shape_one l2).1 hs
      have hQ := beside_gt l2 l3 hu g2
      have IH : Hid (∀ w1, Below w.heap.size w w1 → Calls Try.prog 41 #[.pointer (some ⟨c, 0, none⟩), .int .i64 k] w1 fun e w' => ((∃ q i m x, e = .returned (.tuple #[.pointer (some ⟨q, 0, none⟩), .int .i64 ((i : Nat) : Int)]) ∧ Fnd h M c b Ab k q i m x) ∨ (e = .returned (.tuple #[.pointer none, .int .i64 0]) ∧ ∀ x ∈ lst h b, x.k ≠ k)) ∧ Below w1.heap.size w1 w') :=
        fun w1 hb => ih w1 o M c b Ab k (hm.below hb) k2 ob.2.2.1.2.2 bu (by have := ob.2.2.1.2.1; omega)
      have HF := hid (fun (q i : Nat) (m : Nn) (x : En) (f : Fnd h M c b Ab k q i m x) => fnd_below l2 l3 hs hp k1 k3 bP hQ f)
      have HN : Hid ((∀ x ∈ lst h b, x.k ≠ k) → ∀ x ∈ lst (h + 1) (.mk (es1 ++ es2) (B1 ++ b :: B2)), x.k ≠ k) := fun hn x hx => by
        rw [lst_one l2 _ b B2 l3] at hx
        rcases List.mem_append.1 hx with hx | hx
        · have := bP x hx; omega
        · rcases List.mem_append.1 hx with hx | hx
          · exact hn x hx
          · have := hQ x hx; omega
      have OP := hid op
      have KD : Hid (∀ w1, Below w.heap.size w w1 → ∃ b o, ab = some ⟨b, o, none⟩ ∧ w1.cell? ⟨b, o + C1.length, none⟩ = some (.pointer (some ⟨c, 0, none⟩)) ∧ w1.cell? ⟨p, 1, none⟩ = some (.slice ab (C1 ++ c :: C2).length cb)) := fun w1 hb => by
        obtain ⟨b, o, e, d⟩ := (op.below hb).kid (j := C1.length) (c := c) (by simp)
        exact ⟨b, o, e, d, (op.below hb).at_.c1⟩
      have hn : C1.length < (C1 ++ c :: C2).length := by simp
      have hn2 : (C1 ++ c :: C2).length ≤ 2001 := by
        have := ob.1
        simp only [List.length_append, List.length_cons] at hl ⊢
        omega
      obtain ⟨N, hN⟩ : ∃ N, N = (C1 ++ c :: C2).length := ⟨_, rfl⟩
      obtain ⟨P, hP⟩ : ∃ P, P = C1.length := ⟨_, rfl⟩
      rw [← hN] at KD hn hn2
      rw [← hP] at KF KD hn
      clear hp op hm t hs hu hl hh ih bP bQ bu ob k1 k2 k3 g1 g2 hue l2 l3 lc1 lc2 hQ hN hP OP hpos
      go_enter Try.func41, Try.ntmps41
      go_wp2_with fail
      refine KF.out.mono ?_
      rintro r w1 ⟨rfl, hb⟩
      have HB := hid hb
      have KL1 := hid (KL.out w1 hb)
      have KI := hid (IH.out w1 hb)
      obtain ⟨bb, oo, rfl, d1, d2⟩ := KD.out w1 hb
      clear hb KL IH KD
      have n0 : (0 : Int) ≤ (P : Int) := by omega
      have n1 : (P : Int) < (N : Int) := by omega
      go_wp2_with fail
      refine KL1.out.mono ?_
      rintro r w2 ⟨rfl, rfl⟩
      go_wp2_with fail
      refine KI.out.mono ?_
      rintro r w3 ⟨hr, hb3⟩
      have B3 := hid (below_tr HB.out hb3)
      clear hb3
      rcases hr with ⟨q, i, m, x, rfl, f⟩ | ⟨rfl, hn⟩
      · have HFF := hid (HF.out q i m x f)
        clear f HF
        go_wp2_with fail
        go_ret2
        exact ⟨.inl ⟨q, i, m, x, rfl, HFF.out⟩, B3.out⟩
      · have HNN := hid (HN.out hn)
        clear hn HN
        go_wp2_with fail
        go_ret2
        exact ⟨.inr ⟨rfl, HNN.out⟩, B3.out⟩
end Go.Proofs.Ytlefcjgemojhpab.PTree
