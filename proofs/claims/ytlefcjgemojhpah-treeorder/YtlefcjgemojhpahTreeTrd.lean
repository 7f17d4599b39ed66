/- quirkeep's treed, walked: a tree in memory of its own, whatever the deeds. -/
import Derived.Test.YtlefcjgemojhpahTreeLvl
import Derived.Test.YtlefcjgemojhpahTreeKd
namespace Go.Proofs.Ytlefcjgemojhpah.PTree
open Go Go.RowKit PPool
set_option maxRecDepth 100000
set_option maxHeartbeats 4000000 in
theorem treed_any (w : World) (a : Option Addr) (c : Nat) (X : List Kd) (hX : KdAt w a X) (hn : X.length ≤ 140737488355328) (hT : ∀ x ∈ X, x.text.size ≤ 140737488355328) :
    Calls Try.prog 19 #[.slice a X.length c] w fun e w' => ∃ t o, e = .returned (.pointer (some ⟨t, 0, none⟩)) ∧ TreeAt w' t o (runK X) ∧ Texts (runK X) ∧ (∀ k, o k ≠ none → w.heap.size ≤ k) ∧ Below w.heap.size w w' := by
  have KN := hid (new_any w)
  have HX := hid hX
  have HT := hid hT
  obtain ⟨N, hN⟩ : ∃ N, N = X.length := ⟨_, rfl⟩
  rw [← hN] at hn ⊢
  have HN := hid hN
  clear hX hT hN
  go_enter Try.func19, Try.ntmps19
  go_wp2_with fail
  refine KN.out.mono ?_
  rintro r w1 ⟨t, o, rfl, h1, h2, h3⟩
  have T1 := hid h1
  have D1 := hid h2
  have B1 := hid h3
  clear h1 h2 h3 KN
  go_wp2_with fail
  go_loopw [11] (fun i wr => ∃ (k : Nat) (o' : Lab) (L : List En), k ≤ N ∧ Hid (L = runK (X.take k)) ∧ i = .int .i64 (k : Int) ∧ Hid (TreeAt wr t o' L) ∧ Hid (Texts L) ∧ Hid (∀ q, o' q ≠ none → w.heap.size ≤ q) ∧ Hid (Below w.heap.size w wr)) (fun i _ => N - (intOf i).toNat)
  case atStart => exact ⟨0, o, [], Nat.zero_le _, rfl, rfl, T1, (fun x hx => by simp at hx), D1, B1⟩
  case round =>
    obtain ⟨k, o', L, hk, hL, rfl, hT, hS, hD, hb⟩ := hrel
    by_cases hlt : k < N
    · obtain ⟨x, hx⟩ : ∃ x, X[k]? = some x := ⟨_, List.getElem?_eq_getElem (by rw [← HN.out]; exact hlt)⟩
      obtain ⟨db, off, rfl, h0, d0, d1, d2⟩ := (HX.out.below hb.out) k x hx
      have HS := hid (HT.out x (List.mem_of_getElem? hx))
      have k0 : (0 : Int) ≤ (k : Int) := by omega
      have k1 : (k : Int) < (N : Int) := by omega
      have HR := hid (run_next hx)
      rw [← hL.out] at HR
      obtain ⟨kind, key, text⟩ := x
      simp only at d0 d1 d2 HS
      clear hx h0
      by_cases h3 : (kind.tmod 3 == 0) = true
      · go_wp2_with fail
        refine (drop_top _ t o' L (hT.out.below (bx _ _)) key).mono ?_
        rintro r w2 ⟨rfl, o2, h1, h2⟩
        have hb0 : Below w.heap.size w (wr.alloc (Obj.cells #[Value.int IntKind.i64 kind, Value.int IntKind.i64 key, Value.string text] 49)) := below_tr hb.out (bx _ _)
        obtain ⟨h3, h4⟩ := below_dom hb0 h2 hD.out hb0.size
        have T2 := hid h1
        have D2 := hid h4
        have B2 := hid h3
        have S2 : Hid (Texts (dropL L key)) := dropL_texts hS.out key
        clear h1 h2 h3 h4 hb0
        go_wp2_with fail
        go_roundw
        case rel => exact ⟨k + 1, o2, dropL L key, by omega, by show _ = _; rw [HR.out]; exact (if_pos (by simpa using h3)).symm, by go_num, T2, S2, D2, B2⟩
        case measure => simp [intOf]; omega
      · replace h3 : (kind.tmod 3 == 0) = false := by simpa using h3
        go_wp2_with fail
        refine (put_top _ t o' L (hT.out.below (bx _ _)) key text HS.out).mono ?_
        rintro r w2 ⟨rfl, o2, h1, h2⟩
        have hb0 : Below w.heap.size w (wr.alloc (Obj.cells #[Value.int IntKind.i64 kind, Value.int IntKind.i64 key, Value.string text] 49)) := below_tr hb.out (bx _ _)
        obtain ⟨h3, h4⟩ := below_dom hb0 h2 hD.out hb0.size
        have T2 := hid h1
        have D2 := hid h4
        have B2 := hid h3
        have S2 : Hid (Texts (putL L ⟨key, text⟩)) := putL_texts hS.out HS.out
        clear h1 h2 h3 h4 hb0
        go_wp2_with fail
        go_roundw
        case rel => exact ⟨k + 1, o2, putL L ⟨key, text⟩, by omega, by show _ = _; rw [HR.out]; exact (if_neg (by simpa using h3)).symm, by go_num, T2, S2, D2, B2⟩
        case measure => simp [intOf]; omega
    · obtain rfl : k = N := by omega
      have j3 : decide ((k : Int) < (k : Int)) = false := by simp
      go_wp2_with fail
      go_ret
      have e : L = runK X := by rw [hL.out, HN.out, List.take_length]
      exact ⟨t, o', rfl, e ▸ hT.out, e ▸ hS.out, hD.out, hb.out⟩
end Go.Proofs.Ytlefcjgemojhpah.PTree
