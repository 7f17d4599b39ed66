/- leaf.Drop, walked: it answers what the plain function says; the page that it answers lies in a row of its own; nothing that was there has turned. Conditions: how many slots there are, how long the texts are. -/
import Derived.Test.YtiaddijibaclkaaLeafSet
namespace Go.Proofs.Ytiaddijibaclkaa.PLeaf
open Go Go.RowKit
set_option maxRecDepth 100000

theorem drop_result {W : World} {b : Nat} {v : Value} (h : W.cell? ⟨b, 0, none⟩ = some v) (tmps : Array Value) (h4 : tmps.getD 4 undef = .pointer (some ⟨b, 0, none⟩)) :
    (results Try.f51 tmps).run Try.prog W = .ok (.tuple #[.agg #[v], tmps.getD 5 undef]) W := by
  have h5 : tmps[4]?.getD undef = .pointer (some ⟨b, 0, none⟩) := by simpa using h4
  simp [results, Try.results51, go_sem, h5, h]

def slLen : Value → Nat
  | .slice _ n _ => n
  | _ => 0

theorem Lf.get_hit {X : List Lf.Sl} {k : Int} (h : (Lf.get X k).2 = 0) : Lf.check X = 0 ∧ ∃ n : Nat, k = n ∧ n < X.length := by
  unfold Lf.get at h
  by_cases hc : Lf.check X = 0
  · rw [if_pos hc] at h
    refine ⟨hc, ?_⟩
    by_cases hh : Lf.hit X k = true
    · unfold Lf.hit at hh
      rw [Bool.and_eq_true, decide_eq_true_eq] at hh
      obtain ⟨h0, h1⟩ := hh
      refine ⟨k.toNat, by omega, ?_⟩
      cases hx : X[k.toNat]? with
      | none => rw [hx] at h1; cases h1
      | some x => exact (List.getElem?_eq_some_iff.1 hx).1
    · rw [if_neg hh] at h; cases h
  · rw [if_neg hc] at h; exact absurd h hc

theorem trim_step {Z : List Lf.Sl} {n : Nat} (hn : n + 1 ≤ Z.length) (he : Lf.ends (Z.take (n + 1)) = true) : Lf.trim (Z.take n) = Lf.trim (Z.take (n + 1)) := by
  have := (Lf.trim_less he).1
  rw [List.length_take, Nat.min_eq_left hn, Nat.add_sub_cancel, List.take_take, Nat.min_eq_left (by omega)] at this
  exact this

set_option maxHeartbeats 4000000 in
theorem drop_any (w : World) (a : Option Addr) (c : Nat) (X : List Lf.Sl) (k : Int) (h : PgIn w a X) :
    Calls Try.prog 51 #[.agg #[.slice a X.length c], .int .i64 k] w fun e w' => ∃ v, e = .returned (.tuple #[.agg #[v], .int .i64 ((Lf.drop X k).2 : Int)]) ∧ OwnPg w' w.heap.size v (Lf.drop X k).1 ∧ Below w.heap.size w w' := by
  have hl := h.len
  have K1 := hid fun W (hW : PgIn W a X) => get_any W a c X k hW
  have H := hid h
  by_cases hc : (Lf.get X k).2 = 0
  · have HP : Lf.drop X k = (Lf.trim (X.set k.toNat Lf.none'), 0) := by unfold Lf.drop; rw [if_pos hc]; rfl
    obtain ⟨hck, n, rfl, hn⟩ := Lf.get_hit hc
    rw [Int.toNat_natCast] at HP
    have HP' := hid HP
    rw [hc] at K1
    have K2 := hid fun W (hW : PgIn W a X) => copy_any W a c X hW.at_ hW.len hW.txs
    have h40 := (Lf.check_ok hck).1
    generalize Lf.drop X n = P at *
    generalize (Lf.get X n).1 = T at *
    have f0 : (0 : Int) ≤ (n : Int) := by omega
    have f1 : (n : Int) < (X.length : Int) := by omega
    clear h hc HP hck
    go_enter Try.func51, Try.ntmps51
    go_wp2_with fail
    have BX := hid (Bxs.mk' w (.slice a X.length c) (.slice none 0 0) 73 73)
    generalize (w.alloc (.cells #[.slice a X.length c] 73)).alloc (.cells #[.slice none 0 0] 73) = w0 at *
    refine (K1.out _ (H.out.below BX.out.below)).mono ?_
    rintro r w1 ⟨rfl, hb⟩
    have c0 := BX.out.c0 hb
    have B1 := hid hb
    clear hb K1
    go_wp2_with fail
    refine (K2.out _ (H.out.below (below_tr BX.out.below B1.out))).mono ?_
    rintro r w3 ⟨v, rfl, ho, ⟨g, cp, rfl⟩, hb⟩
    have B3 := hid (below_tr B1.out hb)
    have O3 := hid (ho.lower (base' := w0.heap.size) B1.out.size)
    obtain ⟨x, hx⟩ : ∃ x, X[n]? = some x := ⟨_, List.getElem?_eq_getElem hn⟩
    obtain ⟨m3, m4, m5, m6⟩ := O3.out.spot hx
    have hcp : X.length ≤ cp := by
      obtain ⟨a', c', e, _, _, h1, _⟩ := O3.out.at_
      injection e with _ _ e
      omega
    clear hb K2 B1 ho hx c0
    have O4 : Hid (OwnPg ((w3.setCell ⟨g, n * 2, none⟩ (.bool false)).setCell ⟨g, n * 2 + 1, none⟩ (.string ⟨#[]⟩)) w0.heap.size (.slice (some ⟨g, 0, none⟩) X.length cp) (X.set n Lf.none')) := O3.out.put n hn false Lf.nob
    have B4 : Hid (Below w0.heap.size w0 ((w3.setCell ⟨g, n * 2, none⟩ (.bool false)).setCell ⟨g, n * 2 + 1, none⟩ (.string ⟨#[]⟩))) := Below.two B3.out O3.out.ge.1 _ _ _ _
    clear O3 B3
    go_wp2_with fail
    have hZl : (X.set n Lf.none').length = X.length := List.length_set
    generalize X.set n Lf.none' = Z at *
    generalize (w3.setCell ⟨g, n * 2, none⟩ (.bool false)).setCell ⟨g, n * 2 + 1, none⟩ (.string ⟨#[]⟩) = w4 at *
    have OC := hid fun m (hm : m ≤ Z.length) => O4.out.cut m hm (by omega)
    have KE := hid fun m (hm : m ≤ Z.length) => (by
      have := ends_any w4 (some ⟨g, 0, none⟩) cp (Z.take m) (by
        obtain ⟨a', c', e, hp, _⟩ := (OC.out m hm).at_
        injection e with e _ _
        subst e
        exact hp) (by rw [List.length_take]; omega)
      rw [List.length_take, Nat.min_eq_left hm] at this
      exact this : Calls Try.prog 92 #[.slice (some ⟨g, 0, none⟩) m cp] w4 fun e w' => e = .returned (.bool (Lf.ends (Z.take m))) ∧ w' = w4)
    have HZ := hid hZl
    clear m3 m4 m5 m6
    go_loopw [8] (fun v wr => ∃ m : Nat, m ≤ X.length ∧ v = .slice (some ⟨g, 0, none⟩) m cp ∧ Hid (Lf.trim (Z.take m) = Lf.trim Z) ∧ wr = w4) (fun v _ => slLen v)
    case atStart => exact ⟨X.length, Nat.le_refl _, rfl, by show _ = _; rw [← HZ.out, List.take_length], rfl⟩
    case round =>
      obtain ⟨m, hm, rfl, ht, rfl⟩ := hrel
      have KEm := hid (KE.out m (by omega))
      by_cases he : Lf.ends (Z.take m) = true
      · rw [he] at KEm
        obtain ⟨q, rfl⟩ : ∃ q, m = q + 1 := by
          cases m with
          | zero => rw [List.take_zero] at he; cases he
          | succ q => exact ⟨q, rfl⟩
        have NT : Hid (Lf.trim (Z.take q) = Lf.trim Z) := by show _ = _; rw [trim_step (by omega) he, ht.out]
        have q0 : (0 : Int) ≤ (q : Int) := by omega
        have q1 : (q : Int) ≤ (cp : Int) := by omega
        clear he ht
        go_wp2_with fail
        refine KEm.out.mono ?_
        rintro r w5 ⟨rfl, rfl⟩
        go_wp2_with fail
        go_roundw
        case rel => exact ⟨q, by omega, by first | rfl | (congr 1; omega) | simp, NT, trivial⟩
        case measure => simp [slLen]
      · have he' : Lf.ends (Z.take m) = false := by simpa using he
        rw [he'] at KEm
        have HT : Hid (P = (Z.take m, 0)) := by show _ = _; rw [HP'.out, ← ht.out, Lf.trim_same he']
        have OM := hid (OC.out m (by omega))
        clear he he' ht
        have c1 := BX.out.c1 B4.out
        have f1 := BX.out.fz B4.out
        go_wp2_with fail
        refine KEm.out.mono ?_
        rintro r w5 ⟨rfl, rfl⟩
        go_wp2_with fail
        refine bodyPost_ret (drop_result (BX.out.out B4.out _) _ rfl) rfl ?_
        exact ⟨_, by rw [HT.out]; rfl, by rw [HT.out]; exact BX.out.own OM.out, BX.out.end_ B4.out _⟩
  · have HF : Hid (Lf.drop X k = ([], (Lf.get X k).2)) := by show _ = _; unfold Lf.drop; rw [if_neg hc]
    generalize Lf.drop X k = F at *
    generalize Lf.get X k = G at *
    obtain ⟨T, C⟩ := G
    simp only at hc HF K1
    have hne : ((C : Int) != 0) = true := by simp; omega
    clear h hl
    go_enter Try.func51, Try.ntmps51
    go_wp2_with fail
    have BX := hid (Bxs.mk' w (.slice a X.length c) (.slice none 0 0) 73 73)
    generalize (w.alloc (.cells #[.slice a X.length c] 73)).alloc (.cells #[.slice none 0 0] 73) = w0 at *
    refine (K1.out _ (H.out.below BX.out.below)).mono ?_
    rintro r w1 ⟨rfl, hb⟩
    have B1 := hid hb
    have c1 := BX.out.c1 hb
    have f1 := BX.out.fz hb
    clear hb K1
    go_wp2_with fail
    refine bodyPost_ret (drop_result (BX.out.out B1.out _) _ rfl) rfl ?_
    exact ⟨_, by rw [HF.out]; rfl, by rw [HF.out]; exact OwnPg.nil _ _, BX.out.end_ B1.out _⟩

end Go.Proofs.Ytiaddijibaclkaa.PLeaf
