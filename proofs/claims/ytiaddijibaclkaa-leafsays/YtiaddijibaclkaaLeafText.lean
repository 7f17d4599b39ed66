/- leaf.Text, walked: it answers what the plain function says, and nothing that was there has turned. Conditions: how many slots there are, how long the texts are. -/
import Derived.Test.YtiaddijibaclkaaLeafSize
namespace Go.Proofs.Ytiaddijibaclkaa.PLeaf
open Go Go.RowKit
set_option maxRecDepth 100000

def Lf.mk (l : Lf.By) : ByteArray := ⟨l.toArray⟩
theorem Lf.mk_app (a b : Lf.By) : Lf.mk a ++ Lf.mk b = Lf.mk (a ++ b) := Lf.bytes_eq (by
  have h : (Lf.mk a ++ Lf.mk b).data = (Lf.mk a).data ++ (Lf.mk b).data := ByteArray.data_append
  rw [h, Array.toList_append]
  rfl)
theorem Lf.mk_back (s : ByteArray) : Lf.mk s.data.toList = s := Lf.bytes_eq rfl
theorem Lf.mk_len (l : Lf.By) : (Lf.mk l).size = l.length := Lf.mk_size l
def Lf.text (X : List Lf.Sl) : ByteArray := if Lf.check X = 0 then Lf.mk (Lf.bytes X) else Lf.nob

set_option maxHeartbeats 2000000 in
theorem text_any (w : World) (a : Option Addr) (c : Nat) (X : List Lf.Sl) (h : PgIn w a X) :
    Calls Try.prog 52 #[.agg #[.slice a X.length c]] w fun e w' => e = .returned (.tuple #[.string (Lf.text X), .int .i64 (Lf.check X : Int)]) ∧ Below w.heap.size w w' := by
  have hl := h.len
  have K1 := hid fun W (hW : PgIn W a X) => check_any W a c X hW.at_ (by omega) hW.txs
  have H := hid h
  by_cases hc : Lf.check X = 0
  · obtain ⟨h1, h2, h3, h4⟩ := Lf.check_ok hc
    have K2 := hid fun W => count_any W a X.length c (by omega)
    have HF : Hid (Lf.text X = Lf.mk (Lf.bytes X)) := by show _ = _; unfold Lf.text; rw [if_pos hc]
    have hs : (PCode.Nb.natB X.length).length + (Lf.body X).length ≤ 512 := by rw [← Lf.size_eq]; exact h4
    rw [hc] at K1 ⊢
    clear h hl h2 h3 h4 hc
    obtain ⟨N, hN⟩ : ∃ N, N = Lf.mk (PCode.Nb.natB X.length) := ⟨_, rfl⟩
    rw [show (⟨(PCode.Nb.natB X.length).toArray⟩ : ByteArray) = N from hN.symm] at K2
    have HN := hid hN
    have HS := hid hs
    generalize Lf.text X = T at *
    clear hN hs
    go_enter Try.func52, Try.ntmps52
    go_wp2_with fail
    refine (K1.out _ (H.out.below (bx _ _))).mono ?_
    rintro r w1 ⟨rfl, hb⟩
    have P0 := box1 hb
    have B1 := hid hb
    clear hb K1
    go_wp2_with fail
    refine (K2.out _).mono ?_
    rintro r w2 ⟨rfl, hb2⟩
    have B2 := hid (below_tr B1.out hb2)
    have P0 := box1 B2.out
    clear hb2 B1 K2
    go_wp2_with fail
    go_loopw [5, 18] (fun s i wr => ∃ (k : Nat) (S : ByteArray), k ≤ X.length ∧ s = .string S ∧ i = .int .i64 (k : Int) ∧ Hid (S = Lf.mk (PCode.Nb.natB X.length ++ Lf.body (X.take k))) ∧ Hid (Below w.heap.size w wr)) (fun _ i _ => X.length - (intOf i).toNat)
    case atStart => exact ⟨0, N, Nat.zero_le _, rfl, rfl, (by show _ = _; rw [HN.out, List.take_zero, Lf.body_nil, List.append_nil]), below_tr (bx _ _) B2.out⟩
    case round =>
      obtain ⟨k, S, hk, rfl, rfl, hS, hb⟩ := hrel
      by_cases hlt : k < X.length
      · obtain ⟨x, hx⟩ : ∃ x, X[k]? = some x := ⟨_, List.getElem?_eq_getElem hlt⟩
        obtain ⟨b, o, rfl, d1, d2⟩ := (H.out.below hb.out).at_ k x hx
        have hxt := H.out.txs x (List.mem_of_getElem? hx)
        have KH := hid fun W => head_any W x hxt
        have NX := Lf.body_next hx
        have hhl := Lf.head_len x hxt
        have hSs : S.size ≤ 512 := by
          have h1 : (Lf.body (X.take k)).length ≤ (Lf.body X).length := by
            conv => rhs; rw [← List.take_append_drop k X, Lf.body_app, List.length_append]
            omega
          have := HS.out
          rw [hS.out, Lf.mk_len, List.length_append]
          omega
        have HNX : Hid (S ++ (Lf.mk (Lf.head x) ++ x.text) = Lf.mk (PCode.Nb.natB X.length ++ Lf.body (X.take (k + 1)))) := by
          show _ = _
          rw [hS.out, NX, ← Lf.mk_back x.text, Lf.mk_app, Lf.mk_app, List.append_assoc]
          rfl
        rw [show (⟨(Lf.head x).toArray⟩ : ByteArray) = Lf.mk (Lf.head x) from rfl] at KH
        have hHs : (Lf.mk (Lf.head x)).size ≤ 10 := by rw [Lf.mk_len]; exact hhl
        clear hx NX hhl hS
        obtain ⟨u, t⟩ := x
        simp only at d1 d2 HNX KH hxt
        generalize Lf.mk (Lf.head ⟨u, t⟩) = Hd at *
        have n1 : ¬ (9223372036854775807 < Hd.size + t.size) := by omega
        have n2 : ¬ (9223372036854775807 < S.size + (Hd.size + t.size)) := by omega
        have k0 : (0 : Int) ≤ (k : Int) := by omega
        have k1 : (k : Int) < (X.length : Int) := by omega
        clear hHs hxt hSs
        go_wp2_with fail
        go_region_held3 (fun W => W.cell? ⟨wr.heap.size, 0, none⟩ = some (.bool u) ∧ W.cell? ⟨wr.heap.size, 1, none⟩ = some (.string t))
          (first | exact new2 _ _ _ _ | (go_split_ands; exact ⟨by assumption, by assumption⟩))
          ((go_at_call 94; refine (KH.out _).mono ?_; rintro r w3 ⟨rfl, hb3⟩; obtain ⟨m0, m1⟩ := box2 (drew_below hb3); have B3 := hid hb3; clear hb3))
        go_wp2_with fail
        go_roundw
        case rel => exact ⟨k + 1, _, by omega, rfl, by go_num, HNX, hid (below_tr hb.out (below_tr (bx _ _) (drew_below B3.out)))⟩
        case measure => simp [intOf]; omega
      · obtain rfl : k = X.length := by omega
        have j1 : decide ((X.length : Int) < (X.length : Int)) = false := by simp
        have HT : Hid (T = S) := by
          show _ = _
          have := hS.out
          rw [List.take_length] at this
          rw [HF.out, this]
          rfl
        clear hS HF
        go_wp2_with fail
        go_ret2
        exact ⟨by rw [HT.out]; rfl, hb.out⟩
  · have HF : Hid (Lf.text X = Lf.nob) := by show _ = _; unfold Lf.text; rw [if_neg hc]
    have hcl := Lf.check_le X
    generalize Lf.text X = F at *
    generalize Lf.check X = C at *
    have hne : ((C : Int) != 0) = true := by simp; omega
    clear h hl
    go_enter Try.func52, Try.ntmps52
    go_wp2_with fail
    refine (K1.out _ (H.out.below (bx _ _))).mono ?_
    rintro r w1 ⟨rfl, hb⟩
    have B1 := hid (below_tr (bx _ _) hb)
    clear hb K1
    go_wp2_with fail
    go_ret2
    exact ⟨by rw [HF.out]; rfl, B1.out⟩

end Go.Proofs.Ytiaddijibaclkaa.PLeaf
