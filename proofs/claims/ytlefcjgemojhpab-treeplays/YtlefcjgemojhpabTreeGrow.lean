/- tree's grow and shrink, walked: a new top over one that has too many keys; a top without keys takes in its one child. -/
import Derived.Test.YtlefcjgemojhpabTreeTop
namespace Go.Proofs.Ytlefcjgemojhpab.PTree
open Go Go.RowKit PPool
set_option maxRecDepth 100000
/-- What both leave. -/
def TopTo (h : Nat) (w : World) (o : Lab) (t : Nat) (nd : Nd) (w' : World) : Prop := ∃ o' M' h' nd' A', SubAt w' t o' M' h' nd' A' ∧ Gos o w w' o' ∧ lst h' nd' = lst h nd
theorem cell_two {w : World} {q : Addr} {t : Nat} {u v x : Value} (h : w.cell? q = some x) (hn : q.block ≠ t) : ((w.setCell ⟨t, 0, none⟩ u).setCell ⟨t, 1, none⟩ v).cell? q = some x := cell_set2 h hn
theorem own_box (w : World) (q : Nat) : TP.OwnPg (w.alloc (.cells #[.pointer (some ⟨q, 0, none⟩)] 82)) 0 (.slice (some ⟨w.heap.size, 0, none⟩) 1 1) ([q].map pt) :=
  ⟨rfl, .inr ⟨w.heap.size, 1, _, rfl, Nat.zero_le _, heap_alloc_new w _, Nat.le_refl _, by unfold maxLen; omega, rfl, rfl⟩⟩
theorem grow_mem {w : World} {o : Lab} {M : Sto} (h : Mem w o M) {t : Nat} {n : Nn} {ve vb : Value} (hp : M t = some n) (c0 : w.cell? ⟨t, 0, none⟩ = some ve) (c1 : w.cell? ⟨t, 1, none⟩ = some vb) (f0 : w.frozen? ⟨t, 0, none⟩ = false) (f1 : w.frozen? ⟨t, 1, none⟩ = false) :
    ∃ o', Mem ((((w.setCell ⟨t, 0, none⟩ (.slice none 0 0)).setCell ⟨t, 1, none⟩ (.slice (some ⟨w.heap.size + 1, 0, none⟩) 1 1)).alloc (.cells #[ve, vb] 77)).alloc (.cells #[.pointer (some ⟨w.heap.size, 0, none⟩)] 82)) o' ((M.put w.heap.size n).put t ⟨[], [w.heap.size]⟩) ∧
      Gos o w ((((w.setCell ⟨t, 0, none⟩ (.slice none 0 0)).setCell ⟨t, 1, none⟩ (.slice (some ⟨w.heap.size + 1, 0, none⟩) 1 1)).alloc (.cells #[ve, vb] 77)).alloc (.cells #[.pointer (some ⟨w.heap.size, 0, none⟩)] 82)) o' := by
  have htl := h.lt_of hp
  obtain ⟨wa, hwa⟩ : ∃ wa, wa = (w.setCell ⟨t, 0, none⟩ (.slice none 0 0)).setCell ⟨t, 1, none⟩ (.slice (some ⟨w.heap.size + 1, 0, none⟩) 1 1) := ⟨_, rfl⟩
  have hsa : wa.heap.size = w.heap.size := by rw [hwa]; simp
  have hca : ∀ k, k ≠ t → wa.heap[k]? = w.heap[k]? := fun k hk => by rw [hwa, Below.heap_setCell _ _ _ _ hk, Below.heap_setCell _ _ _ _ hk]
  obtain ⟨t0, t1⟩ := two_set (W := w) (b := t) (x := .slice none 0 0) (y := .slice (some ⟨w.heap.size + 1, 0, none⟩) 1 1) c0 c1
  have hr : ∀ off, 2 ≤ off → wa.cell? ⟨t, off, none⟩ = w.cell? ⟨t, off, none⟩ := fun off ho => by
    rw [hwa, World.cell?_setCell_other _ _ _ _ (by intro e; injection e with _ e _; omega), World.cell?_setCell_other _ _ _ _ (by intro e; injection e with _ e _; omega)]
  have hf : ∀ off, wa.frozen? ⟨t, off, none⟩ = w.frozen? ⟨t, off, none⟩ := fun off => by rw [hwa, World.frozen?_setCell, World.frozen?_setCell]
  rw [← hwa] at t0 t1 ⊢
  have hos : wa.os = w.os ∧ wa.tape = w.tape ∧ wa.output = w.output := by rw [hwa]; exact ⟨rfl, rfl, rfl⟩
  clear hwa
  obtain ⟨wb, hwb⟩ : ∃ wb, wb = wa.alloc (.cells #[ve, vb] 77) := ⟨_, rfl⟩
  have hsb : wb.heap.size = w.heap.size + 1 := by rw [hwb]; simp [hsa]
  have q0 : NodeAt wb w.heap.size ve vb := by
    rw [hwb, ← hsa]
    exact ⟨World.cell?_alloc_new _ _ _ _, World.cell?_alloc_new _ _ _ _, frz_new _ _ _ _, frz_new _ _ _ _⟩
  have bb : Below wa.heap.size wa wb := by rw [hwb]; exact bx _ _
  rw [← hwb]
  clear hwb
  have hob := own_box wb w.heap.size
  have bc : Below wb.heap.size wb (wb.alloc (.cells #[.pointer (some ⟨w.heap.size, 0, none⟩)] 82)) := bx _ _
  have hsc : (wb.alloc (.cells #[.pointer (some ⟨w.heap.size, 0, none⟩)] 82)).heap.size = w.heap.size + 2 := by simp [hsb]
  generalize wb.alloc (.cells #[.pointer (some ⟨w.heap.size, 0, none⟩)] 82) = wc at *
  have bd : Below wa.heap.size wa wc := below_tr bb bc
  rw [hsb] at hob
  refine mem_grow h hp c0 c1 (Nat.le_refl _) (Nat.le_succ _) (by omega) (by omega) (bd.os.trans hos.1) (bd.tape.trans hos.2.1) (bd.output.trans hos.2.2) (fun k hk hkt => (bd.block k (by omega)).trans (hca k hkt)) (fun off ho => (bd.cell (p := ⟨t, off, none⟩) (by show t < _; omega)).trans (hr off ho)) (fun off => (bd.frozen (p := ⟨t, off, none⟩) (by show t < _; omega)).trans (hf off))
    (q0.keep (bc.block _ (by omega))) ⟨TE.keep1 bd t0, TE.keep1 bd t1, (bd.frozen (p := ⟨t, 0, none⟩) (by show t < _; omega)).trans ((hf 0).trans f0), (bd.frozen (p := ⟨t, 1, none⟩) (by show t < _; omega)).trans ((hf 1).trans f1)⟩ (fun k hk => by simpa [Value.ownBlock] using hk.symm) hob
set_option maxHeartbeats 4000000 in
theorem grow_any (w : World) (o : Lab) (M : Sto) (h t : Nat) (nd : Nd) (A : List Nat) (hM : Mem w o M) (tr : Tr h M t nd A) (hn : A.Nodup) (hs : Shape h nd) (hl : nd.es.length ≤ 5) (hp1 : h ≠ 0 → 1 ≤ nd.es.length) :
    Calls Try.prog 46 #[.pointer (some ⟨t, 0, none⟩)] w fun e w' => e = .returned (.tuple #[]) ∧ TopTo h w o t nd w' := by
  obtain ⟨cs, A0, hp, kd, rfl⟩ := tr_iff.1 tr
  obtain ⟨ae, ce, ab, cb, op⟩ := hM.open_ hp
  have c0 := op.at_.c0
  have c1 := op.at_.c1
  have f0 := op.at_.f0
  have f1 := op.at_.f1
  have tlt := op.at_.lt
  simp only at c0 c1
  by_cases h4 : nd.es.length ≤ 4
  · have HR : Hid (TopTo h w o t nd w) := ⟨o, M, h, nd, _, ⟨hM, tr, hn, hs, h4, hp1⟩, Gos.refl _ _, rfl⟩
    have k4 : (nd.es.length : Int) ≤ 4 := by omega
    generalize nd.es.length = n at *
    clear hM tr hn hs hl hp1 hp kd op c1 f0 f1 tlt
    go_enter Try.func46, Try.ntmps46
    go_wp2_with fail
    refine bodyPost_ret (results_none rfl _ _ _) rfl ?_
    exact ⟨rfl, HR.out⟩
  · obtain ⟨es, bs⟩ := nd
    simp only [Nd.es_mk] at h4 hl c0 hp
    obtain ⟨L, m, R, rfl, hL, hR⟩ : ∃ L m R, es = L ++ m :: R ∧ L.length = 2 ∧ R.length = 2 := by
      have h2 : 2 < es.length := by omega
      exact ⟨es.take 2, es[2], es.drop 3, by rw [List.getElem_cons_drop, List.take_append_drop], by rw [List.length_take]; omega, by rw [List.length_drop]; omega⟩
    have e5 : (L ++ m :: R).length = 5 := by simp [hL, hR]
    rw [e5] at c0
    have HS := hid hs
    have HN := hid hn
    have HKD := hid kd
    have HP := hid hp
    have HM := hid hM
    have HLL := hid hL
    have HRR := hid hR
    have T0 := hid tlt
    have C0 := hid c0
    have C1 := hid c1
    have F0 := hid f0
    have F1 := hid f1
    clear hM tr hn hs hl hp1 hp kd op hL hR h4 e5
    go_enter Try.func46, Try.ntmps46
    go_upto_region 3 with fail
    obtain ⟨o1, m1, g1⟩ := grow_mem HM.out HP.out C0.out C1.out F0.out F1.out
    have hlt : ∀ q ∈ t :: A0, q < w.heap.size := tr_lt HM.out (tr_iff.2 ⟨cs, A0, HP.out, HKD.out, rfl⟩)
    have hq0 : w.heap.size ∉ t :: A0 := fun e => Nat.lt_irrefl _ (hlt _ e)
    have kd2 : Kids h ((M.put w.heap.size ⟨L ++ m :: R, cs⟩).put t ⟨[], [w.heap.size]⟩) bs cs A0 := HKD.out.keep fun q hq => by
      rw [Sto.put_ne _ _ (fun e => (List.nodup_cons.1 HN.out).1 (by rw [← e]; exact hq)), Sto.put_ne _ _ (fun e => hq0 (by rw [← e]; simp [hq]))]
    have tq : Tr h ((M.put w.heap.size ⟨L ++ m :: R, cs⟩).put t ⟨[], [w.heap.size]⟩) w.heap.size ⟨L ++ m :: R, bs⟩ (w.heap.size :: A0) :=
      tr_iff.2 ⟨cs, A0, by rw [Sto.put_ne _ _ (fun e => hq0 (by rw [e]; simp))]; exact Sto.put_at _ _ _, kd2, rfl⟩
    have tt : Tr (h + 1) ((M.put w.heap.size ⟨L ++ m :: R, cs⟩).put t ⟨[], [w.heap.size]⟩) t ⟨[] ++ [], [] ++ ⟨L ++ m :: R, bs⟩ :: []⟩ (t :: ((w.heap.size :: A0) ++ [])) :=
      ⟨[w.heap.size], _, Sto.put_at _ _ _, Rws.cons tq rfl, rfl⟩
    have nd2 : (t :: ((w.heap.size :: A0) ++ [])).Nodup := by
      have := HN.out
      simp only [List.append_nil, List.nodup_cons, List.mem_cons, not_or] at this hq0 ⊢
      exact ⟨⟨fun e => hq0.1 e.symm, this.1⟩, hq0.2, this.2⟩
    have KS := hid (split_one_any (i := 0) m1 tt nd2 rfl rfl rfl (by simp) (by simp) (by simp) HS.out HLL.out HRR.out)
    have G1 := hid g1
    have HLE : Hid (lst (h + 1) ⟨[] ++ [], [] ++ ⟨L ++ m :: R, bs⟩ :: []⟩ = lst h ⟨L ++ m :: R, bs⟩) := rfl
    clear m1 g1 hlt hq0 kd2 tq tt nd2
    generalize (((w.setCell ⟨t, 0, none⟩ (.slice none 0 0)).setCell ⟨t, 1, none⟩ (.slice (some ⟨w.heap.size + 1, 0, none⟩) 1 1)).alloc (.cells #[.slice ae 5 ce, .slice ab cs.length cb] 77)).alloc (.cells #[.pointer (some ⟨w.heap.size, 0, none⟩)] 82) = w2 at *
    clear c0 c1 f0 f1 tlt
    go_wp2_with fail
    refine KS.out.mono ?_
    rintro r w3 ⟨rfl, o2, M2, n2, A2, j1, j2, j3, j4, j5, j6⟩
    have HF : Hid (TopTo h w o t ⟨L ++ m :: R, bs⟩ w3) := ⟨o2, M2, h + 1, n2, A2, ⟨j1, j3.tr, j3.nd, j4, by rw [j6]; simp, fun _ => by rw [j6]; simp⟩, G1.out.trans j2, j5.trans HLE.out⟩
    clear j1 j2 j3 j4 j5 j6 KS
    go_wp2_with fail
    go_end0
    exact ⟨rfl, HF.out⟩
set_option maxHeartbeats 4000000 in
theorem shrink_any (w : World) (o : Lab) (M : Sto) (h t : Nat) (nd : Nd) (A : List Nat) (hM : Mem w o M) (tr : Tr h M t nd A) (hn : A.Nodup) (hs : Shape h nd) (hl : nd.es.length ≤ 4) :
    Calls Try.prog 44 #[.pointer (some ⟨t, 0, none⟩)] w fun e w' => e = .returned (.tuple #[]) ∧ TopTo h w o t nd w' := by
  obtain ⟨cs, A0, hp, kd, rfl⟩ := tr_iff.1 tr
  obtain ⟨ae, ce, ab, cb, op⟩ := hM.open_ hp
  have c0 := op.at_.c0
  have c1 := op.at_.c1
  have KL := hid (last_any w t _ ae ce ab cb op)
  simp only at c0 c1 KL
  by_cases h1 : 1 ≤ nd.es.length
  · have HR : Hid (TopTo h w o t nd w) := ⟨o, M, h, nd, _, ⟨hM, tr, hn, hs, hl, fun _ => h1⟩, Gos.refl _ _, rfl⟩
    generalize nd.es.length = n at *
    have k4 : ((n : Int) == 0) = false := by simp; omega
    have k5 : (n == 0) = false := by simp; omega
    clear hM tr hn hs hl hp kd op c1 KL h1
    go_enter Try.func44, Try.ntmps44
    go_wp2_with fail
    go_end0
    exact ⟨rfl, HR.out⟩
  · obtain ⟨es, bs⟩ := nd
    simp only [Nd.es_mk] at h1 c0 hp hl
    obtain rfl : es = [] := List.eq_nil_of_length_eq_zero (by omega)
    cases h with
    | zero =>
      have hz : cs = [] := kids_zero tr hp
      subst hz
      have HR : Hid (TopTo 0 w o t ⟨[], bs⟩ w) := ⟨o, M, 0, _, _, ⟨hM, tr, hn, hs, hl, fun e => absurd rfl e⟩, Gos.refl _ _, rfl⟩
      simp only [List.length_nil] at c0 KL
      clear hM tr hn hs hl hp kd op c1 h1
      go_enter Try.func44, Try.ntmps44
      go_wp2_with fail
      refine KL.out.mono ?_
      rintro r w1 ⟨rfl, rfl⟩
      go_wp2_with fail
      go_end0
      exact ⟨rfl, HR.out⟩
    | succ h =>
      have hbl := hs.1
      simp only [Nd.es_mk, Nd.bs_mk, List.length_nil, Nat.zero_add] at hbl
      obtain ⟨b, bs', rfl, e1⟩ := cons_of (l := bs) (by omega)
      obtain rfl : bs' = [] := List.eq_nil_of_length_eq_zero (by omega)
      have kdl := Kids.len kd
      obtain ⟨c, cs', rfl, e2⟩ := cons_of (l := cs) (by rw [kdl]; simp)
      obtain rfl : cs' = [] := List.eq_nil_of_length_eq_zero (by simpa using kdl)
      obtain ⟨A1, A2, rfl, kc, hA2⟩ := kd
      have hA2 : A2 = [] := hA2
      subst hA2
      obtain ⟨cc, A3, hc, kk, rfl⟩ := tr_iff.1 kc
      obtain ⟨be, bk, bb', bc', opc⟩ := hM.open_ hc
      obtain ⟨gb, go, rfl, d1⟩ := op.kid (j := 0) (c := c) rfl
      have x0 := opc.at_.c0
      have x1 := opc.at_.c1
      have f0 := op.at_.f0
      have f1 := op.at_.f1
      have tlt := op.at_.lt
      have htc : t ≠ c := by grind
      have hb := hs.2 b (by simp)
      have HF : Hid (∀ w2, w2 = (w.setCell ⟨t, 0, none⟩ (.slice be b.es.length bk)).setCell ⟨t, 1, none⟩ (.slice bb' cc.length bc') → TopTo (h + 1) w o t ⟨[], [b]⟩ w2) := fun w2 hw2 => by
        obtain ⟨t0, t1⟩ := two_set (W := w) (b := t) (x := .slice be b.es.length bk) (y := .slice bb' cc.length bc') c0 c1
        rw [← hw2] at t0 t1
        have ff : ∀ off, w2.frozen? ⟨t, off, none⟩ = w.frozen? ⟨t, off, none⟩ := fun off => by rw [hw2, World.frozen?_setCell, World.frozen?_setCell]
        obtain ⟨o', m', g'⟩ := mem_shrink (w2 := w2) hM hp hc htc x0 x1 (by rw [hw2]; simp) (by rw [hw2]; rfl) (by rw [hw2]; rfl) (by rw [hw2]; rfl) (fun k hk => by rw [hw2, Below.heap_setCell _ _ _ _ hk, Below.heap_setCell _ _ _ _ hk])
          (fun off ho => by rw [hw2, World.cell?_setCell_other _ _ _ _ (by intro e; injection e with _ e _; omega), World.cell?_setCell_other _ _ _ _ (by intro e; injection e with _ e _; omega)]) ff ⟨t0, t1, (ff 0).trans f0, (ff 1).trans f1⟩
        have hn' := hn
        simp only [List.append_nil, List.nodup_cons, List.mem_cons, not_or] at hn'
        refine ⟨o', _, h, b, t :: A3, ⟨m', tr_iff.2 ⟨cc, A3, if_pos rfl, kk.keep fun q hq => ?_, rfl⟩, ?_, hb.2.2, hb.2.1, fun _ => by have := hb.1; omega⟩, g', rfl⟩
        · rw [if_neg (fun e => hn'.1.2 (by rw [← e]; exact hq)), if_neg (fun e => hn'.2.1 (by rw [← e]; exact hq))]
        · exact List.nodup_cons.2 ⟨hn'.1.2, hn'.2.2⟩
      simp only [List.length_nil, List.length_cons, Nat.zero_add] at c0 c1 KL
      simp only at x0 x1
      simp only [Nat.add_zero] at d1
      clear hM tr hn hs hl hp op h1 hbl e1 kdl e2 kc hc kk opc htc hb
      go_enter Try.func44, Try.ntmps44
      go_wp2_with fail
      refine KL.out.mono ?_
      rintro r w1 ⟨rfl, rfl⟩
      go_wp2_with fail
      go_end0
      exact ⟨rfl, HF.out _ rfl⟩
end Go.Proofs.Ytlefcjgemojhpab.PTree
