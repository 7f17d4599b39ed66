/- quirlaw.TreePlays, walked: true, whatever the deeds and the key. -/
import Derived.Test.YtlefcjgemojhpabTreePlS
import Derived.RangeFuncBox
import Derived.RangeFuncNested
namespace Go.Proofs.Ytlefcjgemojhpab.PTree
open Go Go.RowKit PPool
set_option maxRecDepth 100000
attribute [local go_sem] Oper.semAt_some
theorem no_panic {F : Fence} {n : Nat} {P : Program} {c : Code} {K : Act → World → Prop} {Q' : Exit → Act → World → Prop} {a : Act} {w : World} (h : c.wpIn F n P (Exit.then K (fun _ _ _ => False)) a w) : c.wpIn F n P (Exit.then K Q') a w :=
  Code.wpIn_mono (fun e a w h => by cases e <;> first | exact h | exact h.elim) h
theorem lists_other {a b : ByteArray} (h : ¬ a = b) : ¬ a.toList = b.toList := fun e => h (by
  rw [ByteArray.toList_eq, ByteArray.toList_eq] at e
  exact bytes_ext e)
theorem next_of {L pre : List En} {P : Nat} {x y : En} (h : (pre ++ [x]) <+: L.drop P) (hy : L[P + pre.length]? = some y) : x = y := by
  obtain ⟨Y, hY⟩ := h
  have e : (L.drop P)[pre.length]? = some x := by rw [← hY]; simp
  rw [List.getElem?_drop, hy] at e
  exact (Option.some.inj e).symm
theorem goes_row {w w' : World} {g n m c : Nat} (h : Goes (fun b => b = g) w w' (fun b => b = g)) : Goes (ownB (.slice (some ⟨g, 0, none⟩) n c)) w w' (ownB (.slice (some ⟨g, 0, none⟩) m c)) :=
  ⟨h.os, h.tape, h.output, h.size, fun k hk hn => h.block k hk (fun e => hn (by rw [e]; rfl)), fun k hk => .inl hk⟩
theorem TreeAt.up {w : World} {t : Nat} {o : Lab} {L : List En} (T : TreeAt w t o L) : Up L ∧ L.length ≤ 2000 := by
  obtain ⟨M, h, nd, A, T, rfl⟩ := T
  exact ⟨T.up, T.small⟩
def Wf (L : List En) : Prop := ∀ x ∈ L, (Lit.int .i64 x.k).wf = true
theorem St.start {w w1 : World} {t : Nat} {o : Lab} (h1 : TreeAt w1 t o []) (h2 : ∀ k, o k ≠ none → (w.alloc (.cells #[.bool false] 4)).heap.size ≤ k) (h3 : Below (w.alloc (.cells #[.bool false] 4)).heap.size (w.alloc (.cells #[.bool false] 4)) w1) :
    St w (((w1.alloc (.cells #[.slice none 0 0] 47)).alloc (.map #[] 0)).alloc (.cells #[.map (some (w1.heap.size + 1))] 48)) t w.heap.size w1.heap.size (w1.heap.size + 1 + 1) (w1.heap.size + 1) 0 o [] (.slice none 0 0) [] [] := by
  have hs : (w.alloc (.cells #[.bool false] 4)).heap.size = w.heap.size + 1 := by simp
  have hz := h3.size
  rw [hs] at hz h2
  have b0 : Below w.heap.size w w1 := ((Below.refl _ w).alloc (Nat.le_refl _) _).trans (h3.mono (by omega))
  have b1 : Below w1.heap.size w1 (((w1.alloc (.cells #[.slice none 0 0] 47)).alloc (.map #[] 0)).alloc (.cells #[.map (some (w1.heap.size + 1))] 48)) := (((Below.refl _ w1).alloc (Nat.le_refl _) _).alloc (by simp) _).alloc (by simp; omega) _
  refine ⟨h1.below b1, OwnR.nil _ _, ?_, ((Boxed.new w1 47 (.slice none 0 0)).alloc _).alloc _, ?_, ?_, fun q hq => ?_, fun g hg => by simp [Value.ownBlock] at hg, fun q hq => by have := h2 q hq; omega, by omega, below_tr b0 b1⟩
  · have h := (Boxed.new w 4 (.bool false))
    have h := boxed_of (W' := w1) h (h3.block _ h.lt)
    exact ((h.alloc _).alloc _).alloc _
  · have h := Boxed.new ((w1.alloc (.cells #[.slice none 0 0] 47)).alloc (.map #[] 0)) 48 (.map (some (w1.heap.size + 1)))
    rw [World.size_alloc, World.size_alloc] at h
    exact h
  · refine ⟨.map [], ?_, fun x hx => by simp at hx⟩
    have h := (World.ownsMap_made (H := Unit) (w1.alloc (.cells #[.slice none 0 0] 47)) Try.prog 3 (plainElem Try.prog 9)).alloc (.cells #[.map (some (w1.heap.size + 1))] 48)
    rw [World.size_alloc] at h
    exact h
  · have l1 := h2 q hq
    have l2 := h1.lt q hq
    exact ⟨by omega, by omega, by omega, by omega, by simp [Value.ownBlock]⟩
set_option maxHeartbeats 8000000 in
theorem plays_walk (w : World) (a : Option Addr) (c : Nat) (X : List Kd) (fr : Int) (hX : KdAt w a X) (hn : X.length ≤ 140737488355328) (hT : ∀ x ∈ X, x.text.size ≤ 140737488355328) (hW : ∀ x ∈ X, (Lit.int .i64 x.key).wf = true) :
    Calls Try.prog 4 #[.slice a X.length c, .int .i64 fr] w fun e w' => e = .returned (.bool true) ∧ Below w.heap.size w w' := by
  have hmm := @run_makeMap Try.prog
  have HX := hid hX
  have HT := hid hT
  have HW := hid hW
  obtain ⟨N, hN⟩ : ∃ N, N = X.length := ⟨_, rfl⟩
  rw [← hN] at hn ⊢
  have HN := hid hN
  clear hX hT hW hN
  refine (callsIn_wide (n := 5)).1 ?_
  refine callsIn_of_wp_marks Try.func4 rfl trivial ?_ rfl
  simp only [Try.ntmps4, List.size_toArray, List.length_cons, List.length_nil, Nat.reduceAdd, Nat.reduceSub, Array.replicate_succ, Array.replicate_zero, List.push_toArray, List.append_toArray, List.nil_append, List.cons_append]
  gi_wp2_with fail
  refine ⟨trivial, (callsIn_wide.2 (new_any _)).mono ?_⟩
  rintro r w1 ⟨t, o, rfl, h1, h2, h3⟩
  have HT1 := hid h1
  have HO1 := hid h2
  have HB1 := hid h3
  clear h1 h2 h3
  gi_wp2_with fail
  have S0 := hid (St.start HT1.out HO1.out HB1.out)
  have hll : w1.heap.size < w1.heap.size + 1 := Nat.lt_succ_self _
  generalize (((w1.alloc (.cells #[.slice none 0 0] 47)).alloc (.map #[] 0)).alloc (.cells #[.map (some (w1.heap.size + 1))] 48)) = W0 at *
  generalize w1.heap.size + 1 + 1 = TB at *
  generalize w1.heap.size + 1 = MB at *
  clear HT1 HO1 HB1 hll hmm
  generalize w1.heap.size = KB at *
  generalize hRB : w.heap.size = RB at *
  have HRB := hid hRB
  clear hRB
  gi_loopw [24] (fun i wr => ∃ (k : Nat) (o : Lab) (L : List En) (v : Value), k ≤ N ∧ i = .int .i64 (k : Int) ∧ Hid (Texts L) ∧ Hid (Wf L) ∧ Hid (St w wr t RB KB TB MB k o L v (keysOf L) L)) (fun i _ => N - (intOf i).toNat)
  case atStart => exact ⟨0, o, [], _, Nat.zero_le _, rfl, fun x hx => by simp at hx, fun x hx => by simp at hx, S0⟩
  case round =>
    obtain ⟨k, o, L, v, hk, rfl, hTx, hWf, hS⟩ := hrel
    by_cases hlt : k < N
    · obtain ⟨x, hx⟩ : ∃ x, X[k]? = some x := ⟨_, List.getElem?_eq_getElem (by rw [← HN.out]; exact hlt)⟩
      obtain ⟨db, off, rfl, h0, d0, d1, d2⟩ := (HX.out.below (by have := hS.out.below; exact this)) k x hx
      have hxt := hid (HT.out x (List.mem_of_getElem? hx))
      have hxw := hid (HW.out x (List.mem_of_getElem? hx))
      have k0 : (0 : Int) ≤ (k : Int) := by omega
      have k1 : (k : Int) < (N : Int) := by omega
      obtain ⟨kind, key, text⟩ := x
      simp only at d0 d1 d2 hxt hxw
      obtain ⟨va, vc, ev, hrow, _⟩ := hS.out.keys.at_
      rw [keys_len] at ev
      subst ev
      have hup := hid hS.out.tree.up
      have S1 := hS.out.next (bx wr (.cells #[.int .i64 kind, .int .i64 key, .string text] 50))
      have HS1 := hid S1
      have c1 := S1.kb.cell
      have KS := hid (search_int _ va vc L key (hrow.below (bx wr (.cells #[.int .i64 kind, .int .i64 key, .string text] 50))) hup.out.1 hup.out.2)
      have KG := hid (get_any _ t o L S1.tree key hTx.out)
      clear hx h0 S1 hrow
      have HP : (pos L key : Int) ≤ (L.length : Int) := by have := pos_le L key; omega
      have HL : (L.length : Int) ≤ 2000 := by have := hup.out.2; omega
      by_cases hh : hit L key = true
      · --OK
        obtain ⟨⟨yk, yt⟩, hy1, hy2, hy3, hy4⟩ := get_hit hup.out.1 hh
        simp only at hy2 hy4
        subst hy2
        have KG2 : Hid (Calls Try.prog 20 #[.pointer (some ⟨t, 0, none⟩), .int .i64 yk] (wr.alloc (.cells #[.int .i64 kind, .int .i64 yk, .string text] 50)) fun e w' => e = .returned (.tuple #[.string yt, .int .i64 0]) ∧ Below (wr.alloc (.cells #[.int .i64 kind, .int .i64 yk, .string text] 50)).heap.size (wr.alloc (.cells #[.int .i64 kind, .int .i64 yk, .string text] 50)) w') := by
          have h := KG.out
          rw [hy4] at h
          exact h
        have KS2 := KS.out
        rw [hh] at KS2
        have KS3 := hid KS2
        have HY1 := hid hy1
        have HY3 := hid hy3
        have HH := hid hh
        have hpl : (pos L yk : Int) < (L.length : Int) := by have := (List.getElem?_eq_some_iff.1 hy1).1; omega
        obtain ⟨g, c', eg, hgc⟩ := TI.OwnPg.some hS.out.keys (by rw [keys_len]; omega)
        injection eg with eg1 eg2 eg3
        subst eg1
        subst eg3
        clear KG KS KS2 hy1 hy3 hy4 hh eg2
        generalize hP : pos L yk = P at *
        have HPP := hid hP
        clear hP
        gi_wp2_with fail
        refine ⟨trivial, (callsIn_wide.2 KS3.out).mono ?_⟩
        rintro r w2 ⟨rfl, rfl⟩
        gi_wp2_with fail
        refine ⟨trivial, (callsIn_wide.2 KG2.out).mono ?_⟩
        rintro r w3 ⟨rfl, hb3⟩
        have S3 := HS1.out.next hb3
        have HS3 := hid S3
        have hl0 : wr.heap.size < (wr.alloc (.cells #[.int .i64 kind, .int .i64 yk, .string text] 50)).heap.size := by simp
        have e0 : w3.cell? ⟨wr.heap.size, 0, none⟩ = some (.int .i64 kind) := (hb3.cell (p := ⟨wr.heap.size, 0, none⟩) hl0).trans (World.cell?_alloc_new wr #[.int .i64 kind, .int .i64 yk, .string text] 50 0)
        have e1 : w3.cell? ⟨wr.heap.size, 1, none⟩ = some (.int .i64 yk) := (hb3.cell (p := ⟨wr.heap.size, 1, none⟩) hl0).trans (World.cell?_alloc_new wr #[.int .i64 kind, .int .i64 yk, .string text] 50 1)
        have e2 : w3.cell? ⟨wr.heap.size, 2, none⟩ = some (.string text) := (hb3.cell (p := ⟨wr.heap.size, 2, none⟩) hl0).trans (World.cell?_alloc_new wr #[.int .i64 kind, .int .i64 yk, .string text] 50 2)
        have c3 := S3.tb.cell
        have hlk := S3.tx.get HY3.out hxw.out
        simp only at hlk
        have HB3 := hid hb3
        clear hb3 S3 c1 hl0
        by_cases h3 : (kind.tmod 3 == 0) = true
        · have KD := drop_top w3 t o L HS3.out.tree yk
          rw [(drop_hit hup.out.1 HH.out).2, (drop_hit hup.out.1 HH.out).1] at KD
          have KD2 := hid KD
          clear KD
          gi_wp2_with fail
          refine ⟨trivial, (callsIn_wide.2 KD2.out).mono ?_⟩
          rintro r w4 ⟨rfl, o4, hT4, hG4⟩
          have S4 := HS3.out.tree_step hT4 hG4
          have HS4 := hid S4
          have c4 := S4.kb.cell
          have KX := TI.delete_any w4 w.heap.size g vc P (P + 1) L.length (L.length - 1) (keysOf L) (keys_len L) S4.keys (by omega) (by omega) (by omega) (by omega)
          rw [show ((P + 1 : Nat) : Int) = (P : Int) + 1 by omega] at KX
          have KX2 := hid KX
          clear KX S4 hT4 hG4
          gi_wp2_with fail
          refine ⟨trivial, (callsIn_wide.2 KX2.out).mono ?_⟩
          rintro r w5 ⟨rfl, hO5, hG5⟩
          obtain ⟨k5, S5⟩ := HS4.out.keys_step hO5 (goes_row hG5)
          have c5 := k5.cell
          have f5 := k5.frozen
          have HS5 := hid S5
          clear hO5 hG5 k5 S5 c4 c3
          gi_wp2_with fail
          exact ⟨⟨k + 1, o4, out L yk, _, by omega, by go_num, out_texts hTx.out yk, fun y hy => hWf.out y (mem_out hy), by
            have h := HS5.out.texts (m := k + 1) (by omega) (Lx' := out L yk) (fun y hy => mem_out hy)
            show St _ _ _ _ _ _ _ _ _ _ _ _ _
            rw [keys_out hup.out.1 HH.out, HPP.out]
            exact h⟩, by simp [intOf]; omega⟩
        · replace h3 : (kind.tmod 3 == 0) = false := by simpa using h3
          have KD := put_top w3 t o L HS3.out.tree yk text hxt.out
          rw [(put_hit hup.out.1 text HH.out).2, (put_hit hup.out.1 text HH.out).1] at KD
          have KD2 := hid KD
          have hno := hid (fun e => Nat.lt_irrefl _ (hS.out.tree.lt wr.heap.size e))
          clear KD
          gi_wp2_with fail
          refine ⟨trivial, (callsIn_wide.2 KD2.out).mono ?_⟩
          rintro r w4 ⟨rfl, o4, hT4, hG4⟩
          have S4 := HS3.out.tree_step hT4 hG4
          have HS4 := hid S4
          have c4 := S4.tb.cell
          have e1' : w4.cell? ⟨wr.heap.size, 1, none⟩ = some (.int .i64 yk) := goes_cell hG4 e1 hno.out
          have e2' : w4.cell? ⟨wr.heap.size, 2, none⟩ = some (.string text) := goes_cell hG4 e2 hno.out
          obtain ⟨D, hm, ha⟩ := S4.tx
          have HM := hid hm
          have HA := hid ha
          have hky : keyOf Try.prog 3 (.int .i64 yk) = some (.int .i64 yk) := Maps.keyOf_int_mk Try.underlying3 hxw.out
          have hmx : text.size ≤ maxLen := by have := hxt.out; unfold maxLen; omega
          have HMX := hid hmx
          have hkm : k < maxLen := by unfold maxLen; omega
          clear S4 hT4 hG4 hm ha e1 e2 c3 hlk hmx
          gi_wp2_with (gi_at_mapUpdate; refine wpListIn_mapUpdate_own _ rfl _ _ _ 48 rfl 3 9 law3 Try.underlying48 _ MB k D rfl HM.out hkm _ _ _ rfl rfl hky _ [] (plainElem_string Try.underlying9 HMX.out) ?_; intro w5 hown5 hgrow5)
          have S5 := hid (HS4.out.map_step (Lx' := up L ⟨yk, text⟩) hgrow5 (TxAt.next HM.out HA.out hown5 (fun y hy => mem_up hy)))
          clear hown5 hgrow5
          gi_wp2_with fail
          exact ⟨⟨k + 1, o4, up L ⟨yk, text⟩, _, by omega, by go_num, up_texts hTx.out hxt.out, fun y hy => (by rcases mem_up hy with rfl | ⟨h, _⟩; exact hxw.out; exact hWf.out y h), by
            have h := S5.out
            show St _ _ _ _ _ _ _ _ _ _ _ _ _
            rw [keys_up_hit hup.out.1 text HH.out]
            exact h⟩, by simp [intOf]; omega⟩
      · --OK
        replace hh : hit L key = false := by simpa using hh
        have KG2 : Hid (Calls Try.prog 20 #[.pointer (some ⟨t, 0, none⟩), .int .i64 key] (wr.alloc (.cells #[.int .i64 kind, .int .i64 key, .string text] 50)) fun e w' => e = .returned (.tuple #[.string ⟨#[]⟩, .int .i64 6]) ∧ Below (wr.alloc (.cells #[.int .i64 kind, .int .i64 key, .string text] 50)).heap.size (wr.alloc (.cells #[.int .i64 kind, .int .i64 key, .string text] 50)) w') := by
          have h := KG.out
          rw [get_miss hup.out.1 hh] at h
          exact h
        have KS2 := KS.out
        rw [hh] at KS2
        have KS3 := hid KS2
        have HH := hid hh
        clear KG KS KS2 hh
        generalize hP : pos L key = P at *
        have HPP := hid hP
        clear hP
        gi_wp2_with fail
        refine ⟨trivial, (callsIn_wide.2 KS3.out).mono ?_⟩
        rintro r w2 ⟨rfl, rfl⟩
        gi_wp2_with fail
        refine ⟨trivial, (callsIn_wide.2 KG2.out).mono ?_⟩
        rintro r w3 ⟨rfl, hb3⟩
        have S3 := HS1.out.next hb3
        have HS3 := hid S3
        have hl0 : wr.heap.size < (wr.alloc (.cells #[.int .i64 kind, .int .i64 key, .string text] 50)).heap.size := by simp
        have hl3 : Hid (wr.heap.size < w3.heap.size) := Nat.lt_of_lt_of_le hl0 hb3.size
        have e0 : w3.cell? ⟨wr.heap.size, 0, none⟩ = some (.int .i64 kind) := (hb3.cell (p := ⟨wr.heap.size, 0, none⟩) hl0).trans (World.cell?_alloc_new wr #[.int .i64 kind, .int .i64 key, .string text] 50 0)
        have e1 : w3.cell? ⟨wr.heap.size, 1, none⟩ = some (.int .i64 key) := (hb3.cell (p := ⟨wr.heap.size, 1, none⟩) hl0).trans (World.cell?_alloc_new wr #[.int .i64 kind, .int .i64 key, .string text] 50 1)
        have e2 : w3.cell? ⟨wr.heap.size, 2, none⟩ = some (.string text) := (hb3.cell (p := ⟨wr.heap.size, 2, none⟩) hl0).trans (World.cell?_alloc_new wr #[.int .i64 kind, .int .i64 key, .string text] 50 2)
        have hno := hid (fun e => Nat.lt_irrefl _ (hS.out.tree.lt wr.heap.size e))
        have hkm : k < maxLen := by unfold maxLen; omega
        clear hb3 S3 c1 hl0
        by_cases h3 : (kind.tmod 3 == 0) = true
        · have KD := drop_top w3 t o L HS3.out.tree key
          rw [(drop_miss hup.out.1 HH.out).2, (drop_miss hup.out.1 HH.out).1] at KD
          have KD2 := hid KD
          clear KD
          gi_wp2_with fail
          refine ⟨trivial, (callsIn_wide.2 KD2.out).mono ?_⟩
          rintro r w4 ⟨rfl, o4, hT4, hG4⟩
          have S4 := hid ((HS3.out.tree_step hT4 hG4).texts (m := k + 1) (by omega) (fun y hy => hy))
          clear hT4 hG4
          gi_wp2_with fail
          exact ⟨⟨k + 1, o4, L, _, by omega, by go_num, hTx, hWf, S4⟩, by simp [intOf]; omega⟩
        · replace h3 : (kind.tmod 3 == 0) = false := by simpa using h3
          by_cases hfull : L.length < 2000
          · have KD := put_top w3 t o L HS3.out.tree key text hxt.out
            rw [(put_room text hfull).2, (put_room text hfull).1] at KD
            have KD2 := hid KD
            have hf2 : ((L.length : Int) == 2000) = false := by simp; omega
            clear KD
            gi_wp2_with fail
            refine ⟨trivial, (callsIn_wide.2 KD2.out).mono ?_⟩
            rintro r w4 ⟨rfl, o4, hT4, hG4⟩
            have S4 := HS3.out.tree_step hT4 hG4
            have HS4 := hid S4
            have c4 := S4.kb.cell
            have hl4 : Hid (wr.heap.size < w4.heap.size) := Nat.lt_of_lt_of_le hl3.out hG4.size
            have e1' : w4.cell? ⟨wr.heap.size, 1, none⟩ = some (.int .i64 key) := goes_cell hG4 e1 hno.out
            have e2' : w4.cell? ⟨wr.heap.size, 2, none⟩ = some (.string text) := goes_cell hG4 e2 hno.out
            have hvb : (Value.slice va L.length vc).ownBlock ≠ some w4.heap.size := fun e => by have := (S4.keys.lt _ e).2; omega
            have hvr : Hid ((Value.slice va L.length vc).ownBlock ≠ some wr.heap.size) := fun e => by have := (hS.out.keys.lt _ e).2; omega
            have KX := TI.insert_any (w4.alloc (.cells #[.int .i64 key] 3)) w.heap.size (.slice va L.length vc) P w4.heap.size (keysOf L) key (S4.next (bx w4 _)).keys (World.alloc_heap_new w4 _) hvb (by rw [keys_len]; omega) (by rw [keys_len]; omega) (by have := S4.below.size; simp; omega)
            have KX2 := hid KX
            have E1 := hid e1'
            have E2 := hid e2'
            clear KX S4 hT4 hG4 hvb e1 e2
            gi_wp2_with fail
            refine ⟨trivial, (callsIn_wide.2 KX2.out).mono ?_⟩
            rintro r w5 ⟨v5, rfl, hO5, hG5⟩
            obtain ⟨a5, c5, rfl, _⟩ := hO5.at_
            obtain ⟨k5, S5⟩ := (HS4.out.next (bx w4 _)).keys_step hO5 hG5
            have ck5 := k5.cell
            have fk5 := k5.frozen
            have hneq : Hid (wr.heap.size ≠ KB) := fun e => by have := hS.out.kb.lt; omega
            have e1 : (w5.setCell ⟨KB, 0, none⟩ (.slice a5 ((keysOf L).take P ++ key :: (keysOf L).drop P).length c5)).cell? ⟨wr.heap.size, 1, none⟩ = some (.int .i64 key) := by
              refine (World.cell?_of_block (a := ⟨wr.heap.size, 1, none⟩) (Below.heap_setCell _ _ _ _ hneq.out)).trans ?_
              exact goes_cell hG5 ((World.cell?_of_block (a := ⟨wr.heap.size, 1, none⟩) ((bx w4 _).block _ hl4.out)).trans E1.out) hvr.out
            have e2 : (w5.setCell ⟨KB, 0, none⟩ (.slice a5 ((keysOf L).take P ++ key :: (keysOf L).drop P).length c5)).cell? ⟨wr.heap.size, 2, none⟩ = some (.string text) := by
              refine (World.cell?_of_block (a := ⟨wr.heap.size, 2, none⟩) (Below.heap_setCell _ _ _ _ hneq.out)).trans ?_
              exact goes_cell hG5 ((World.cell?_of_block (a := ⟨wr.heap.size, 2, none⟩) ((bx w4 _).block _ hl4.out)).trans E2.out) hvr.out
            have ct5 := S5.tb.cell
            obtain ⟨D, hm, ha⟩ := S5.tx
            have HM := hid hm
            have HA := hid ha
            have HS5 := hid S5
            have hky : keyOf Try.prog 3 (.int .i64 key) = some (.int .i64 key) := Maps.keyOf_int_mk Try.underlying3 hxw.out
            have hmx : text.size ≤ maxLen := by have := hxt.out; unfold maxLen; omega
            have HMX := hid hmx
            clear S5 hO5 hG5 hm ha hmx k5 c4
            generalize hq5 : ((keysOf L).take P ++ key :: (keysOf L).drop P).length = q5 at *
            have HQ5 := hid hq5
            clear hq5
            gi_wp2_with (gi_at_mapUpdate; refine wpListIn_mapUpdate_own _ rfl _ _ _ 48 rfl 3 9 law3 Try.underlying48 _ MB k D rfl HM.out hkm _ _ _ rfl rfl hky _ [] (plainElem_string Try.underlying9 HMX.out) ?_; intro w6 hown6 hgrow6)
            have S6 := hid (HS5.out.map_step (Lx' := up L ⟨key, text⟩) hgrow6 (TxAt.next HM.out HA.out hown6 (fun y hy => mem_up hy)))
            clear hown6 hgrow6
            gi_wp2_with fail
            exact ⟨⟨k + 1, o4, up L ⟨key, text⟩, _, by omega, by go_num, up_texts hTx.out hxt.out, fun y hy => (by rcases mem_up hy with rfl | ⟨h, _⟩; exact hxw.out; exact hWf.out y h), by
              have h := S6.out
              show St _ _ _ _ _ _ _ _ _ _ _ _ _
              rw [keys_up_miss hup.out.1 text HH.out, HPP.out]
              exact h⟩, by simp [intOf]; omega⟩
          · have KD := put_top w3 t o L HS3.out.tree key text hxt.out
            rw [(put_full hup.out.1 text HH.out hfull).2, (put_full hup.out.1 text HH.out hfull).1] at KD
            have KD2 := hid KD
            have hf2 : ((L.length : Int) == 2000) = true := by simp; omega
            clear KD
            gi_wp2_with fail
            refine ⟨trivial, (callsIn_wide.2 KD2.out).mono ?_⟩
            rintro r w4 ⟨rfl, o4, hT4, hG4⟩
            have S4 := HS3.out.tree_step hT4 hG4
            have c4 := S4.kb.cell
            have HS4 := hid (S4.texts (m := k + 1) (by omega) (fun y hy => hy))
            clear hT4 hG4 S4
            gi_wp2_with fail
            exact ⟨⟨k + 1, o4, L, _, by omega, by go_num, hTx, hWf, HS4⟩, by simp [intOf]; omega⟩
    · obtain rfl : k = N := by omega
      have j3 : decide ((k : Int) < (k : Int)) = false := by simp
      obtain ⟨va, vc, ev, hrow, _⟩ := hS.out.keys.at_
      rw [keys_len] at ev
      subst ev
      have hup := hid hS.out.tree.up
      have c0 := hS.out.kb.cell
      have KS := hid (search_int wr va vc L fr hrow hup.out.1 hup.out.2)
      have HG : Hid (ge fr L = L.drop (pos L fr)) := ge_drop hup.out.1 fr
      have HP := pos_le L fr
      have HL := hup.out.2
      clear hrow
      generalize hit L fr = Q at *
      generalize pos L fr = P at *
      gi_wp2_with fail
      refine ⟨trivial, (callsIn_wide.2 KS.out).mono ?_⟩
      rintro r w2 ⟨rfl, rfl⟩
      gi_wp2_with fail
      refine ⟨trivial, (callsIn_wide.2 (from_any _ t fr)).mono ?_⟩
      rintro r w4 ⟨rfl, rfl⟩
      gi_wp2_with fail
      obtain ⟨W5, hW5⟩ : ∃ W5, W5 = (((w2.alloc (.cells #[.int .i64 (P : Int)] 3)).alloc (.cells #[.pointer (some ⟨t, 0, none⟩)] 45)).alloc (.cells #[.int .i64 fr] 3)) := ⟨_, rfl⟩
      have hs5 : W5.heap.size = w2.heap.size + 3 := by rw [hW5]; simp
      have hB5 : Below w2.heap.size w2 W5 := by
        rw [hW5]
        exact (((Below.refl _ w2).alloc (Nat.le_refl _) _).alloc (by simp) _).alloc (by simp; omega) _
      have z0 : Boxed W5 w2.heap.size 3 (.int .i64 (P : Int)) := by rw [hW5]; exact ((Boxed.new w2 3 (.int .i64 (P : Int))).alloc _).alloc _
      have z1 : Boxed W5 (w2.heap.size + 1) 45 (.pointer (some ⟨t, 0, none⟩)) := by
        have h := (Boxed.new (w2.alloc (.cells #[.int .i64 (P : Int)] 3)) 45 (.pointer (some ⟨t, 0, none⟩))).alloc (.cells #[.int .i64 fr] 3)
        rw [World.size_alloc] at h; rw [hW5]; exact h
      have z2 : Boxed W5 (w2.heap.size + 1 + 1) 3 (.int .i64 fr) := by
        have h := Boxed.new ((w2.alloc (.cells #[.int .i64 (P : Int)] 3)).alloc (.cells #[.pointer (some ⟨t, 0, none⟩)] 45)) 3 (.int .i64 fr)
        rw [World.size_alloc, World.size_alloc] at h; rw [hW5]; exact h
      have S5 := hid (hS.out.next hB5)
      have hlo : ∀ q, o q ≠ none → q < w2.heap.size := hS.out.tree.lt
      rw [← hW5]
      have hsq := tree_seq 4 w2.heap.size fr W5 t o _ S5.out.tree hlo (by omega) hTx.out (w2.heap.size + 1) (w2.heap.size + 1 + 1) z1.cell z2.cell
      have hrl : RB < w2.heap.size := hS.out.rb.lt
      have hkl : KB < w2.heap.size := hS.out.kb.lt
      have htl : TB < w2.heap.size := hS.out.tb.lt
      have hge : (ge fr L).length = L.length - P := by rw [HG.out, List.length_drop]
      have HB5 := hid hB5
      clear hW5 z1 z2 KS c0 hB5 hlo
      apply wpIn_rangeFunc_ownF rfl (by omega) (gf := 49) (lb := #[.pointer (some ⟨w2.heap.size + 1, 0, none⟩), .pointer (some ⟨w2.heap.size + 1 + 1, 0, none⟩)]) rfl trivial (encs := fun x : En => #[.int .i64 x.k, .string x.t]) (Kp := Below w2.heap.size) (enters_of Try.func49 (by kernel_rfl) rfl) hsq belowK_t (belowK_b (n₀ := w2.heap.size) (w := W5) (by omega)) (Below.refl _ _) (fun (x : En) => rfl)
        (fun (q : List En) W6 => Boxed W6 w2.heap.size 3 (.int .i64 ((P + q.length : Nat) : Int)) ∧ Below w2.heap.size W5 W6)
        (fun co q W6 => co = .ret ∧ ¬ q <+: ge fr L)
        (OwnFrom.and (Own.from (boxed_own _ _ _) _) (ownFrom_below (by omega) (by omega)))
        (fun co => ownFrom_pure _ _)
        ⟨z0, Below.refl _ _⟩
      · intro l x W6 K hK
        gi_wp2
        exact hK
      · rintro l pre x W6 ⟨b0, hb⟩ hlen
        have hS6 := hS.out.next (HB5.out.trans hb)
        have hj : P + pre.length < L.length := by omega
        obtain ⟨j, hjj⟩ : ∃ j, j = P + pre.length := ⟨_, rfl⟩
        rw [← hjj] at b0 hj
        obtain ⟨y, hy⟩ : ∃ y, L[j]? = some y := ⟨_, List.getElem?_eq_getElem hj⟩
        have HN' : Hid ((pre ++ [x]) <+: ge fr L → x = y) := fun hp => by
          rw [HG.out] at hp
          exact next_of hp (by rw [← hjj]; exact hy)
        have HYm := hid (List.mem_of_getElem? hy)
        have HYw := hid (hWf.out y (List.mem_of_getElem? hy))
        have HBB := hid hb
        obtain ⟨va', vc', ev', hrow, _⟩ := hS6.keys.at_
        injection ev' with ev1 ev2 ev3
        subst ev1
        obtain ⟨vb, vo, rfl, dk⟩ := hrow j y.k (key_at hy)
        have hlk := hS6.tx.get HYm.out HYw.out
        have c0 := b0.cell
        have f0 := b0.frozen
        have c1 := hS6.kb.cell
        have c2 := hS6.tb.cell
        have c3 := hS6.rb.cell
        have f3 := hS6.rb.frozen
        have BB0 := hid b0
        have j0 : (0 : Int) ≤ (j : Int) := by omega
        have j1 : (j : Int) < (L.length : Int) := by omega
        have j2 : (L.length : Int) ≤ 2000 := by omega
        have HJJ := hid hjj
        clear b0 hb hy hS6 ev2 ev3 hrow hjj
        obtain ⟨xk, xt⟩ := x
        obtain ⟨yk, yt⟩ := y
        simp only at dk hlk
        by_cases hk : xk = yk
        · subst hk
          by_cases ht : xt = yt
          · subst ht
            gi_wp2_with fail
            have e : (j : Int) + 1 = (P : Int) + ((pre ++ [(⟨xk, xt⟩ : En)]).length : Int) := by rw [HJJ.out]; simp; omega
            refine ⟨KeepsOthers.setCell _ _ _, (Below.refl _ W6).setCell (p := ⟨w2.heap.size, 0, none⟩) (Nat.le_refl _) _, ?_, HBB.out.setCell (p := ⟨w2.heap.size, 0, none⟩) (Nat.le_refl _) _⟩
            rw [← e]
            exact BB0.out.set _
          · have ht2 := lists_other ht
            have ht3 : (xt.toList == yt.toList) = false := beq_eq_false_iff_ne.2 ht2
            gi_wp2_with fail
            exact ⟨KeepsOthers.setCell _ _ _, rfl, fun hp => ht (by have := HN'.out hp; injection this)⟩
        · have hk2 : (xk == yk) = false := by simpa using hk
          gi_wp2_with fail
          exact ⟨KeepsOthers.setCell _ _ _, rfl, fun hp => hk (by have := HN'.out hp; injection this)⟩
      · rintro D2 xs W6 hD2 rfl ⟨b0, hb⟩ hdef
        have hS6 := hS.out.next (HB5.out.trans hb)
        have e : ((P + (ge fr L).length : Nat) : Int) = (L.length : Int) := by rw [hge]; omega
        rw [e] at b0
        have c0 := b0.cell
        have c1 := hS6.kb.cell
        have c3 := hS6.rb.cell
        have f3 := hS6.rb.frozen
        have KL := hid fun W1 (hb1 : Below W6.heap.size W6 W1) => (callsIn_wide (n := 4)).2 (len_any W1 t o L (hS6.tree.below hb1))
        have V2 := hid hS6.rb
        have V3 := hid hS6.below
        have V4 := hid hS6.nos
        have HD2 := hid hdef
        have N2 : (L.length : Int) ≤ 2000 := by omega
        clear b0 hb hS6 hdef hsq z0 e hge HG
        generalize L.length = M at *
        have hMM : ((M : Int) == (M : Int)) = true := by simp
        have hmx : Try.prog.follows Departure.mixedOrders = true := by kernel_rfl
        gi_wp2_with fail
        refine no_panic ?_
        gi_region_with_o (refine ⟨trivial, ?_⟩; refine (KL.out _ (TE.drew_below (Below.refl _ _))).mono ?_; rintro e w8 ⟨rfl, rfl⟩)
        all_goals gi_wp2_with fail
        all_goals (
          have q1 := V4.out
          have k2 : (W6.setCell ⟨RB, 0, none⟩ (.bool true)).drew.heap[D2]? = some (.deferred (some [])) := (KeepsOthers.setCell _ _ _).same D2 _ HD2.out rfl
          have q2 := V3.out.size
          have B6 : Below w.heap.size w ((W6.setCell ⟨RB, 0, none⟩ (.bool true)).drew.putObj D2 (.deferred none)) := by
            have h : Below w.heap.size w (W6.setCell ⟨RB, 0, none⟩ (.bool true)).drew := (V3.out.setCell (p := ⟨RB, 0, none⟩) q1.1 _).drew
            exact h.trans (belowK_b (w := w) (Nat.le_refl _) _ D2 _ _ (by omega) k2 rfl rfl)
          have r6 : ((W6.setCell ⟨RB, 0, none⟩ (.bool true)).drew.putObj D2 (.deferred none)).cell? ⟨RB, 0, none⟩ = some (.bool true) := by
            have h : Boxed (W6.setCell ⟨RB, 0, none⟩ (.bool true)).drew RB 4 (.bool true) := V2.out.set (.bool true)
            exact (h.kept (grownBy_putObj' _ D2 (.deferred none)) (by simp; omega)).cell
          refine ⟨by simp, .inl ⟨_, _, rfl, run_takeDeferred k2, ?_⟩⟩
          exact ⟨.bool true, by simp [results, Try.results4, go_sem, r6], rfl, B6⟩)
      · rintro D2 co pre W6 hD2 hsp ⟨rfl, hn⟩ hdef
        exact absurd hsp hn
end Go.Proofs.Ytlefcjgemojhpab.PTree
