/- leaf.Put, walked: it answers what the plain function says; the page that it answers lies in a row of its own; nothing that was there has turned. Conditions: how many slots there are, how long the texts are. -/
import Derived.Test.YtiaddijibaclkaaLeafGet
namespace Go.Proofs.Ytiaddijibaclkaa.PLeaf
open Go Go.RowKit
set_option maxRecDepth 100000

theorem put_result {W : World} {b : Nat} {v : Value} (h : W.cell? ⟨b, 0, none⟩ = some v) (tmps : Array Value) (h4 : tmps.getD 4 undef = .pointer (some ⟨b, 0, none⟩)) :
    (results Try.f49 tmps).run Try.prog W = .ok (.tuple #[.agg #[v], tmps.getD 5 undef, tmps.getD 6 undef]) W := by
  have h5 : tmps[4]?.getD undef = .pointer (some ⟨b, 0, none⟩) := by simpa using h4
  simp [results, Try.results49, go_sem, h5, h]

set_option maxHeartbeats 4000000 in
theorem put_any (w : World) (a : Option Addr) (c : Nat) (X : List Lf.Sl) (t : ByteArray) (h : PgIn w a X) (ht : t.size ≤ 140737488355328) :
    Calls Try.prog 49 #[.agg #[.slice a X.length c], .string t] w fun e w' => ∃ v, e = .returned (.tuple #[.agg #[v], .int .i64 ((Lf.put X t).2.1 : Int), .int .i64 ((Lf.put X t).2.2 : Int)]) ∧ OwnPg w' w.heap.size v (Lf.put X t).1 ∧ Below w.heap.size w w' := by
  have hl := h.len
  have K1 := hid fun W (hW : PgIn W a X) => check_any W a c X hW.at_ (by omega) hW.txs
  have H := hid h
  by_cases hc : Lf.check X = 0
  · have HP : Lf.put X t = if Lf.check (Lf.putX X t) = 0 then (Lf.putX X t, Lf.first X, 0) else ([], 0, 8) := by unfold Lf.put; rw [if_pos hc]
    obtain ⟨h40, _, _, _⟩ := Lf.check_ok hc
    rw [hc] at K1
    have K2 := hid fun W (hW : PgIn W a X) => first_any W a c X hW.at_ (by omega)
    have K3 := hid fun W (hW : PgIn W a X) => pgClone_any W a c X hW.at_ hW.len
    have K4 := hid fun W v' (Y : List Lf.Sl) (c' : Nat) (hW : OwnPg W (w.heap.size + 2) (.slice v' Y.length c') Y) (hY : Y.length ≤ 41) (hT : Txs Y) => check_any W v' c' Y (hW.inp (by omega) hT).at_ (by omega) hT
    have K5 := hid fun W v' (Y : List Lf.Sl) (c' : Nat) (hW : OwnPg W (w.heap.size + 2) (.slice v' Y.length c') Y) (hY : Y.length ≤ 41) (hT : Txs Y) => copy_any W v' c' Y (hW.inp (by omega) hT).at_ (by omega) hT
    have HT := hid h.txs
    obtain ⟨i0, hi, hz0, hz1, hz2⟩ := info_parts slot_info
    have hl' : (X.length : Int) ≤ 40 := by omega
    have hfl := Lf.first_le X
    have hrl := Lf.room_len X
    have hrt := Lf.room_lt X
    have HTP : Hid (Txs (Lf.putX X t)) := by
      show Txs _
      unfold Lf.putX Lf.room
      split
      · exact (HT.out.snoc Lf.none' (by show (0 : Nat) ≤ _; omega)).set _ _ ht
      · exact HT.out.set _ _ ht
    have hpl : (Lf.putX X t).length ≤ 41 := by rw [Lf.putX_len, hrl]; split <;> omega
    have HPX : Hid (Lf.putX X t = (Lf.room X).set (Lf.first X) ⟨true, t⟩) := rfl
    have HPL := hid (Lf.putX_len X t)
    generalize Lf.putX X t = Z at *
    generalize Lf.put X t = P at *
    have HP' := hid HP
    clear h hc HP
    by_cases hf : Lf.first X = X.length
    · have hR : Lf.room X = X ++ [Lf.none'] := by unfold Lf.room; rw [if_pos hf]
      have hln : (X ++ [Lf.none']).length = X.length + 1 := by simp
      rw [hR, hf] at HPX
      rw [hR, hln] at HPL
      rw [hf] at HP' K2
      have hfb : ((X.length : Int) == (X.length : Int)) = true := by simp
      clear hf hR hrl hfl hrt
      go_enter Try.func49, Try.ntmps49
      go_wp2_with fail
      have BX := hid (Bxs.mk' w (.slice a X.length c) (.slice none 0 0) 73 73)
      generalize (w.alloc (.cells #[.slice a X.length c] 73)).alloc (.cells #[.slice none 0 0] 73) = w0 at *
      refine (K1.out _ (H.out.below BX.out.below)).mono ?_
      rintro r w1 ⟨rfl, hb⟩
      have c0 := BX.out.c0 hb
      have B1 := hid hb
      clear hb K1
      go_wp2_with fail
      refine (K2.out _ (H.out.below (below_tr BX.out.below B1.out))).mono ?_
      rintro r w2 ⟨rfl, hb⟩
      have B2 := hid (below_tr B1.out hb)
      have c0 := BX.out.c0 B2.out
      clear hb K2 B1
      go_wp2_with fail
      refine (K3.out _ (H.out.below (below_tr BX.out.below B2.out))).mono ?_
      rintro r w3 ⟨v, rfl, ho, hb⟩
      have B3 := hid (below_tr B2.out hb)
      have ho' := ho.lower (base' := w.heap.size + 2) (by have := BX.out.size; have := B2.out.size; omega)
      have O3 := hid ho'
      obtain ⟨a3, c3, rfl, _⟩ := ho'.at_
      clear hb K3 B2 ho ho' c0
      go_wp2_with (at_builtin; refine wpList_append_own _ rfl _ _ 71 rfl (w.heap.size + 2) 90 i0 (.agg #[.bool false, .string ⟨#[]⟩]) 2 24 Try.underlying71 hi hz0 hz1 hz2 rfl (by decide) _ _ _ rfl (O3.out.keepAlloc _) ⟨w3.heap.size, 0, none⟩ 1 1 (sc Lf.none') rfl rfl ?qc2 ?qc3 ?qc4 ?qc5 ?qc6 ?_)
      case qc2 => exact none_cells w3
      case qc3 => exact sc_one _
      case qc4 => unfold maxLen; omega
      case qc5 => omega
      case qc6 => have := BX.out.size; have := B3.out.size; simp; omega
      intro v' w4 hown hgrow _
      have O5 := hid (OwnPg.grows hown)
      have B5 : Hid (Below w0.heap.size w0 w4) := (B3.out.alloc B3.out.size _).grown hgrow (by have := B3.out.size; simp; omega) (fun k hk => by have := O3.out.lt k hk; have := BX.out.size; omega)
      clear hown hgrow O3 B3 hi hz0 hz1 hz2
      obtain ⟨g, cp, rfl, hcp⟩ := O5.out.some (by simp)
      rw [hln] at O5 hcp ⊢
      have hx : (X ++ [Lf.none'])[X.length]? = some Lf.none' := by simp
      obtain ⟨m3, m4, m5, m6⟩ := O5.out.spot hx
      have f0 : (0 : Int) ≤ (X.length : Int) := by omega
      have f1 : (X.length : Int) < ((X.length + 1 : Nat) : Int) := by omega
      have O4 : Hid (OwnPg ((w4.setCell ⟨g, X.length * 2, none⟩ (.bool true)).setCell ⟨g, X.length * 2 + 1, none⟩ (.string t)) (w.heap.size + 2) (.slice (some ⟨g, 0, none⟩) (X.length + 1) cp) Z) := by
        have := O5.out.put X.length (by omega) true t
        rw [← HPX.out] at this
        exact this
      have B4 : Hid (Below w0.heap.size w0 ((w4.setCell ⟨g, X.length * 2, none⟩ (.bool true)).setCell ⟨g, X.length * 2 + 1, none⟩ (.string t))) := Below.two B5.out (by have := O5.out.ge; have := BX.out.size; omega) _ _ _ _
      clear O5 B5 hx hln
      have K4' := K4.out _ (some ⟨g, 0, none⟩) Z cp (by rw [HPL.out]; exact O4.out) hpl HTP.out
      rw [HPL.out] at K4'
      have K4h := hid K4'
      have KC := hid fun W (hW : OwnPg W (w.heap.size + 2) (.slice (some ⟨g, 0, none⟩) Z.length cp) Z) => K5.out W (some ⟨g, 0, none⟩) Z cp hW hpl HTP.out
      have HZL := hid HPL.out
      rw [HPL.out] at KC
      clear K4 K4' K5 HPX H
      by_cases hz : Lf.check Z = 0
      · have HP0 : Hid (P = (Z, X.length, 0)) := by show _ = _; rw [HP'.out, if_pos hz]
        rw [hz] at K4h
        clear HP' hz
        go_wp2_with fail
        refine K4h.out.mono ?_
        rintro r w5 ⟨rfl, hb⟩
        have O5 := hid (O4.out.below hb)
        have B5 := hid (below_tr B4.out hb)
        clear hb O4 B4 K4h m3 m4 m5 m6
        go_wp2_with fail
        refine (KC.out _ O5.out).mono ?_
        rintro r w6 ⟨v6, rfl, ho, ⟨g6, c6, rfl⟩, hb⟩
        have B6 := hid (below_tr B5.out hb)
        have O6 := hid (ho.lower (base' := w0.heap.size) B5.out.size)
        have c1 := BX.out.c1 B6.out
        have f1 := BX.out.fz B6.out
        clear hb ho O5 B5 KC
        go_wp2_with fail
        refine bodyPost_ret (put_result (BX.out.out B6.out _) _ rfl) rfl ?_
        exact ⟨_, by rw [HP0.out]; rfl, by rw [HP0.out]; exact BX.out.own O6.out, BX.out.end_ B6.out _⟩
      · have HP0 : Hid (P = ([], 0, 8)) := by show _ = _; rw [HP'.out, if_neg hz]
        have hcl := Lf.check_le Z
        generalize Lf.check Z = C at *
        have hne : ((C : Int) != 0) = true := by simp; omega
        clear HP' hz KC
        go_wp2_with fail
        refine K4h.out.mono ?_
        rintro r w5 ⟨rfl, hb⟩
        have B5 := hid (below_tr B4.out hb)
        have c1 := BX.out.c1 B5.out
        have f1 := BX.out.fz B5.out
        clear hb O4 B4 K4h m3 m4 m5 m6
        go_wp2_with fail
        refine bodyPost_ret (put_result (BX.out.out B5.out _) _ rfl) rfl ?_
        exact ⟨_, by rw [HP0.out]; rfl, by rw [HP0.out]; exact OwnPg.nil _ _, BX.out.end_ B5.out _⟩
    · have hR : Lf.room X = X := by unfold Lf.room; rw [if_neg hf]
      rw [hR] at hrt HPX HPL
      have hfb : ((Lf.first X : Int) == (X.length : Int)) = false := by simp; omega
      have hfb2 : (Lf.first X == X.length) = false := by simp; omega
      have f0 : (0 : Int) ≤ (Lf.first X : Int) := by omega
      have f1 : (Lf.first X : Int) < (X.length : Int) := by omega
      have HX0 : Hid (0 < X.length) := by show 0 < _; omega
      generalize Lf.first X = F at *
      clear hf hR hrl
      go_enter Try.func49, Try.ntmps49
      go_wp2_with fail
      have BX := hid (Bxs.mk' w (.slice a X.length c) (.slice none 0 0) 73 73)
      generalize (w.alloc (.cells #[.slice a X.length c] 73)).alloc (.cells #[.slice none 0 0] 73) = w0 at *
      refine (K1.out _ (H.out.below BX.out.below)).mono ?_
      rintro r w1 ⟨rfl, hb⟩
      have c0 := BX.out.c0 hb
      have B1 := hid hb
      clear hb K1
      go_wp2_with fail
      refine (K2.out _ (H.out.below (below_tr BX.out.below B1.out))).mono ?_
      rintro r w2 ⟨rfl, hb⟩
      have B2 := hid (below_tr B1.out hb)
      have c0 := BX.out.c0 B2.out
      clear hb K2 B1
      go_wp2_with fail
      refine (K3.out _ (H.out.below (below_tr BX.out.below B2.out))).mono ?_
      rintro r w3 ⟨v, rfl, ho, hb⟩
      have B3 := hid (below_tr B2.out hb)
      have ho' := ho.lower (base' := w.heap.size + 2) (by have := BX.out.size; have := B2.out.size; omega)
      obtain ⟨g, cp, rfl, hcp⟩ := ho'.some HX0.out
      have O3 := hid ho'
      obtain ⟨x, hx⟩ : ∃ x, X[F]? = some x := ⟨_, List.getElem?_eq_getElem (by omega)⟩
      obtain ⟨m3, m4, m5, m6⟩ := ho'.spot hx
      clear hb K3 B2 ho ho' hx
      have O4 : Hid (OwnPg ((w3.setCell ⟨g, F * 2, none⟩ (.bool true)).setCell ⟨g, F * 2 + 1, none⟩ (.string t)) (w.heap.size + 2) (.slice (some ⟨g, 0, none⟩) X.length cp) Z) := by
        have := O3.out.put F (by omega) true t
        rw [← HPX.out] at this
        exact this
      have B4 : Hid (Below w0.heap.size w0 ((w3.setCell ⟨g, F * 2, none⟩ (.bool true)).setCell ⟨g, F * 2 + 1, none⟩ (.string t))) := Below.two B3.out (by have := O3.out.ge; have := BX.out.size; omega) _ _ _ _
      have K4' := K4.out _ (some ⟨g, 0, none⟩) Z cp (by rw [HPL.out]; exact O4.out) hpl HTP.out
      rw [HPL.out] at K4'
      have K4h := hid K4'
      have KC := hid fun W (hW : OwnPg W (w.heap.size + 2) (.slice (some ⟨g, 0, none⟩) Z.length cp) Z) => K5.out W (some ⟨g, 0, none⟩) Z cp hW hpl HTP.out
      have HZL := hid HPL.out
      rw [HPL.out] at KC
      clear K4 K4' K5 HPX hrt O3 B3 H c0
      by_cases hz : Lf.check Z = 0
      · have HP0 : Hid (P = (Z, F, 0)) := by show _ = _; rw [HP'.out, if_pos hz]
        rw [hz] at K4h
        clear HP' hz
        go_wp2_with fail
        refine K4h.out.mono ?_
        rintro r w5 ⟨rfl, hb⟩
        have O5 := hid (O4.out.below hb)
        have B5 := hid (below_tr B4.out hb)
        clear hb O4 B4 K4h m3 m4 m5 m6
        go_wp2_with fail
        refine (KC.out _ O5.out).mono ?_
        rintro r w6 ⟨v6, rfl, ho, ⟨g6, c6, rfl⟩, hb⟩
        have B6 := hid (below_tr B5.out hb)
        have O6 := hid (ho.lower (base' := w0.heap.size) B5.out.size)
        have c1 := BX.out.c1 B6.out
        have f1 := BX.out.fz B6.out
        clear hb ho O5 B5 KC
        go_wp2_with fail
        refine bodyPost_ret (put_result (BX.out.out B6.out _) _ rfl) rfl ?_
        exact ⟨_, by rw [HP0.out]; rfl, by rw [HP0.out]; exact BX.out.own O6.out, BX.out.end_ B6.out _⟩
      · have HP0 : Hid (P = ([], 0, 8)) := by show _ = _; rw [HP'.out, if_neg hz]
        have hcl := Lf.check_le Z
        generalize Lf.check Z = C at *
        have hne : ((C : Int) != 0) = true := by simp; omega
        clear HP' hz KC
        go_wp2_with fail
        refine K4h.out.mono ?_
        rintro r w5 ⟨rfl, hb⟩
        have B5 := hid (below_tr B4.out hb)
        have c1 := BX.out.c1 B5.out
        have f1 := BX.out.fz B5.out
        clear hb O4 B4 K4h m3 m4 m5 m6
        go_wp2_with fail
        refine bodyPost_ret (put_result (BX.out.out B5.out _) _ rfl) rfl ?_
        exact ⟨_, by rw [HP0.out]; rfl, by rw [HP0.out]; exact OwnPg.nil _ _, BX.out.end_ B5.out _⟩
  · have HF : Hid (Lf.put X t = ([], 0, Lf.check X)) := by show _ = _; unfold Lf.put; rw [if_neg hc]
    have hcl := Lf.check_le X
    generalize Lf.put X t = F at *
    generalize Lf.check X = C at *
    have hne : ((C : Int) != 0) = true := by simp; omega
    clear h hl
    go_enter Try.func49, Try.ntmps49
    go_wp2_with fail
    have BX := hid (Bxs.mk' w (.slice a X.length c) (.slice none 0 0) 73 73)
    generalize (w.alloc (.cells #[.slice a X.length c] 73)).alloc (.cells #[.slice none 0 0] 73) = w0 at *
    refine (K1.out _ (H.out.below BX.out.below)).mono ?_
    rintro r w1 ⟨rfl, hb⟩
    have B1 := hid hb
    have c1 := BX.out.c1 hb
    have f1 := BX.out.fz hb
    clear hb K1
    go_wp2_with fail
    refine bodyPost_ret (put_result (BX.out.out B1.out _) _ rfl) rfl ?_
    exact ⟨_, by rw [HF.out]; rfl, by rw [HF.out]; exact OwnPg.nil _ _, BX.out.end_ B1.out _⟩

end Go.Proofs.Ytiaddijibaclkaa.PLeaf
