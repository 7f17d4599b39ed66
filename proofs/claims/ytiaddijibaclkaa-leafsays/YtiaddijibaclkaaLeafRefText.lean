/- quirref.LeafText and LeafErr, walked: the document's own answers are what the plain functions say. Conditions: how many slots there are, how long the texts are. -/
import Derived.Test.YtiaddijibaclkaaLeafText
import Derived.Test.YtiaddijibaclkaaRef
namespace Go.Proofs.Ytiaddijibaclkaa.PLeaf
open Go Go.RowKit
set_option maxRecDepth 100000

set_option maxHeartbeats 2000000 in
theorem refText_any (w : World) (a : Option Addr) (c : Nat) (X : List Lf.Sl) (h : PgAt w a X) (hn : X.length ≤ 41) (ht : Txs X) (ho : Lf.odd X = false) :
    Calls Try.prog 57 #[.agg #[.slice a X.length c]] w fun e w' => e = .returned (.string (Lf.mk (Lf.bytes X))) ∧ Below w.heap.size w w' := by
  have K2 := hid fun W => PCode.refNat_any X.length W (by omega)
  have H := hid h
  have HT := hid ht
  have HO := hid ho
  obtain ⟨N, hN⟩ : ∃ N, N = Lf.mk (PCode.Nb.natB X.length) := ⟨_, rfl⟩
  rw [show (⟨(PCode.Nb.natB X.length).toArray⟩ : ByteArray) = N from hN.symm] at K2
  obtain ⟨T, hT⟩ : ∃ T, T = Lf.mk (Lf.bytes X) := ⟨_, rfl⟩
  rw [← hT]
  have HF := hid hT
  have HN := hid hN
  have hn' : (X.length : Int) ≤ 41 := by omega
  clear h ht hN hT ho
  go_enter Try.func57, Try.ntmps57
  go_wp2_with fail
  refine (K2.out _).mono ?_
  rintro r w2 ⟨rfl, hb2⟩
  have B2 := hid hb2
  have P0 := box1 B2.out
  clear hb2 K2
  go_wp2_with fail
  go_loopw [3, 14] (fun s i wr => ∃ (k : Nat) (S : ByteArray), k ≤ X.length ∧ s = .string S ∧ i = .int .i64 (k : Int) ∧ Hid (S = Lf.mk (PCode.Nb.natB X.length ++ Lf.body (X.take k))) ∧ Hid (Below w.heap.size w wr)) (fun _ i _ => X.length - (intOf i).toNat)
  case atStart => exact ⟨0, N, Nat.zero_le _, rfl, rfl, (by show _ = _; rw [HN.out, List.take_zero, Lf.body_nil, List.append_nil]), below_tr (bx _ _) B2.out⟩
  case round =>
    obtain ⟨k, S, hk, rfl, rfl, hS, hb⟩ := hrel
    by_cases hlt : k < X.length
    · obtain ⟨x, hx⟩ : ∃ x, X[k]? = some x := ⟨_, List.getElem?_eq_getElem hlt⟩
      obtain ⟨b, o, rfl, d1, d2⟩ := (H.out.below hb.out) k x hx
      have hxm := List.mem_of_getElem? hx
      have hxt := HT.out x hxm
      have hxo := Lf.odd1_false (Lf.odd_false.1 HO.out x hxm)
      have NX := Lf.body_next hx
      have hSs : S.size ≤ 5910974510934197 := by
        have h1 := body_le (X.take k) (HT.out.take k)
        have h2 : (X.take k).length ≤ 41 := by rw [List.length_take]; omega
        have h3 : (X.take k).length * 140737488355338 ≤ 41 * 140737488355338 := Nat.mul_le_mul_right _ h2
        have h4 : (PCode.Nb.natB X.length).length = 1 := Lf.count_one (by omega)
        rw [hS.out, Lf.mk_len, List.length_append, h4]
        omega
      have k0 : (0 : Int) ≤ (k : Int) := by omega
      have k1 : (k : Int) < (X.length : Int) := by omega
      obtain ⟨u, t⟩ := x
      simp only at d1 d2 hxt hxo
      cases u with
      | false =>
        have ht0 : t = Lf.nob := by
          rcases hxo with e | e
          · cases e
          · exact e
        subst ht0
        have HNX : Hid (S ++ ⟨#[0]⟩ = Lf.mk (PCode.Nb.natB X.length ++ Lf.body (X.take (k + 1)))) := by
          show _ = _
          rw [hS.out, NX, show (⟨#[0]⟩ : ByteArray) = Lf.mk [0] from rfl, Lf.mk_app, List.append_assoc]
          rfl
        have n1 : ¬ (9223372036854775807 < S.size + 1) := by omega
        have n2 : S.size + 1 ≤ 9223372036854775807 := by omega
        clear hx NX hS hxo hxm
        go_wp2_with fail
        go_roundw
        case rel => exact ⟨k + 1, _, by omega, rfl, by go_num, HNX, hid (below_tr hb.out (bx _ _))⟩
        case measure => simp [intOf]; omega
      | true =>
        have KH := hid fun W => PCode.refNat_int ((t.size : Int) + 1) W (by omega) (by omega)
        rw [show ((t.size : Int) + 1).toNat = t.size + 1 by omega] at KH
        have hhl := PCode.Nb.natB_len10 (t.size + 1) (by omega)
        have HNX : Hid (S ++ (Lf.mk (PCode.Nb.natB (t.size + 1)) ++ t) = Lf.mk (PCode.Nb.natB X.length ++ Lf.body (X.take (k + 1)))) := by
          show _ = _
          rw [hS.out, NX]
          conv => lhs; rw [← Lf.mk_back t, Lf.mk_app, Lf.mk_app, List.append_assoc]
          simp only [Lf.mk_len]
          rfl
        rw [show (⟨(PCode.Nb.natB (t.size + 1)).toArray⟩ : ByteArray) = Lf.mk (PCode.Nb.natB (t.size + 1)) from rfl] at KH
        have hHs : (Lf.mk (PCode.Nb.natB (t.size + 1))).size ≤ 10 := by rw [Lf.mk_len]; exact hhl
        generalize Lf.mk (PCode.Nb.natB (t.size + 1)) = Hd at *
        have n1 : ¬ (9223372036854775807 < Hd.size + t.size) := by omega
        have n2 : ¬ (9223372036854775807 < S.size + (Hd.size + t.size)) := by omega
        have n3 : IntKind.u64.wrap ((t.size : Int) + 1) = (t.size : Int) + 1 := IntWalk.u64_in _ ⟨by omega, by omega⟩
        have n4 : IntKind.u64.wrap (t.size : Int) = (t.size : Int) := IntWalk.u64_in _ ⟨by omega, by omega⟩
        clear hx NX hS hxo hxm hhl hHs hSs
        go_wp2_with fail
        go_region_held3 (fun W => W.cell? ⟨wr.heap.size, 0, none⟩ = some (.bool true) ∧ W.cell? ⟨wr.heap.size, 1, none⟩ = some (.string t))
          (first | exact new2 _ _ _ _ | (go_split_ands; exact ⟨by assumption, by assumption⟩))
          ((go_at_call 17; refine (KH.out _).mono ?_; rintro r w3 ⟨rfl, hb3⟩; obtain ⟨m0, m1⟩ := box2 (drew_below hb3); have B3 := hid hb3; clear hb3))
        go_wp2_with fail
        go_roundw
        case rel => exact ⟨k + 1, _, by omega, rfl, by go_num, HNX, hid (below_tr hb.out (below_tr (bx _ _) (drew_below B3.out)))⟩
        case measure => simp [intOf]; omega
    · obtain rfl : k = X.length := by omega
      have j1 : decide ((X.length : Int) < (X.length : Int)) = false := by simp
      have HT2 : Hid (T = S) := by
        show _ = _
        have := hS.out
        rw [List.take_length] at this
        rw [HF.out, this]
        rfl
      clear hS HF
      go_wp2_with fail
      go_ret
      exact ⟨by rw [HT2.out]; rfl, hb.out⟩

end Go.Proofs.Ytiaddijibaclkaa.PLeaf
