/- quirref.Serial, walked: it answers the order of those that have ended well, and nothing that was there has turned. Conditions: the run is right; the capacity is no less than the length. -/
import Derived.Test.YtlhkkhojfndoiabRunREd
import Derived.Test.YtlhkkhojfndoiabGraphROrd
namespace Go.Proofs.Ytlhkkhojfndoiab.PRun
open Go Go.RowKit PPool PGraph
set_option maxRecDepth 100000

set_option maxHeartbeats 2000000 in
theorem rserial_any (w : World) (a : Option Addr) (c : Nat) (X : List Rn.Op) (h : OpAt w a X) (hv : Rn.check X = 0) (hcap : X.length ≤ c) :
    Calls Try.prog 33 #[.slice a X.length c] w fun e w' => ∃ v, e = .returned (.tuple #[v, .bool (Gr.order (Rn.edges X) 12).isSome]) ∧ OwnNats w' w.heap.size v (Rn.serial X) ∧ Below w.heap.size w w' := by
  have H := hid h
  have HC := hid hv
  have l200 := (Rn.check_zero hv).1
  obtain ⟨m, hm, hR⟩ := Right.of (Rn.edges_ok X)
  obtain rfl : m = 12 := by omega
  have KE := hid fun W h => redges_any W a c X h hv hcap
  have KO : Hid (∀ W b d, PgAt W b (Rn.edges X) → Calls Try.prog 70 #[.int .i64 12, .slice b (Rn.edges X).length d] W fun e w' => ∃ v, e = .returned (.tuple #[v, .bool (Gr.order (Rn.edges X) 12).isSome]) ∧ OwnNats w' W.heap.size v ((Gr.order (Rn.edges X) 12).getD []) ∧ Below W.heap.size W w') := fun W b d h => rord_any W 12 b d (Rn.edges X) h hR
  have hsr : Rn.serial X = ((Gr.order (Rn.edges X) 12).getD []).filter (Rn.com X) := rfl
  rw [hsr]
  have HOs : Hid (∀ L, Gr.order (Rn.edges X) 12 = some L → (∀ t ∈ L, t < 12) ∧ L.length = 12) := fun L hL => ⟨(Gr.order_some hL).1.lt, (Gr.order_some hL).2⟩
  obtain ⟨E, hE⟩ : ∃ E, E = Rn.edges X := ⟨_, rfl⟩
  rw [← hE] at KE KO HOs ⊢
  obtain ⟨O, hO⟩ : ∃ O, O = Gr.order E 12 := ⟨_, rfl⟩
  rw [← hO] at KO HOs ⊢
  have HL : Hid ((∀ t ∈ O.getD [], t < 12) ∧ (O.getD []).length ≤ 12) := by
    cases hOO : O with
    | none => exact ⟨fun t ht => by simp at ht, by simp⟩
    | some L => exact ⟨(HOs.out L hOO).1, Nat.le_of_eq (HOs.out L hOO).2⟩
  obtain ⟨L, hL⟩ : ∃ L, L = O.getD [] := ⟨_, rfl⟩
  rw [← hL] at KO HL ⊢
  obtain ⟨S, hS⟩ : ∃ S, S = O.isSome := ⟨_, rfl⟩
  rw [← hS] at KO ⊢
  have KT := hid fun W b d (hq : W.cell? ⟨w.heap.size, 0, none⟩ = some (.slice a X.length c)) (hb : Below w.heap.size w W) (hN : NatsAt W b L) =>
    those_any W b d L 72 #[.pointer (some ⟨w.heap.size, 0, none⟩)] (Rn.com X) (fun _ _ => rfl) (fun W' t ht hb' => by
      have := hasC_any W' ⟨w.heap.size, 0, none⟩ a c X (t : Int) (keep1 hb' hq) (H.out.below (below_tr hb hb')) (by omega)
      rw [mem_all HC.out (HL.out.1 t ht)] at this
      exact this) hN (by have := HL.out.2; omega)
  clear hv h hm hR hsr HOs hE hO hL hS
  go_enter Try.func33, Try.ntmps33
  go_wp2_with fail
  have B0 : ∀ T, Hid (Below w.heap.size w (w.alloc (.cells #[.slice a X.length c] T)) ∧ (w.alloc (.cells #[.slice a X.length c] T)).cell? ⟨w.heap.size, 0, none⟩ = some (.slice a X.length c)) := fun T => ⟨bx _ _, (ArrAt.new w _ T).cell (j := 0) rfl⟩
  refine (KE.out _ (H.out.below (B0 _).out.1)).mono ?_
  rintro r w1 ⟨v1, rfl, ho1, hb1⟩
  obtain ⟨a1, c1, rfl, hp1, -⟩ := ho1.at_
  have B1 : Hid (Below w.heap.size w w1 ∧ w1.cell? ⟨w.heap.size, 0, none⟩ = some (.slice a X.length c)) := ⟨below_tr (B0 _).out.1 hb1, keep1 hb1 (B0 _).out.2⟩
  have P1 := hid hp1
  clear ho1 hb1 hp1 KE B0
  go_wp2_with fail
  refine (KO.out _ a1 c1 P1.out).mono ?_
  rintro r w2 ⟨v2, rfl, ho2, hb2⟩
  obtain ⟨a2, c2, rfl, hp2, -⟩ := ho2.at_
  have P2 : Hid (NatsAt w2 a2 L) := hp2
  have B2 : Hid (Below w.heap.size w w2 ∧ w2.cell? ⟨w.heap.size, 0, none⟩ = some (.slice a X.length c)) := ⟨below_tr B1.out.1 hb2, keep1 hb2 B1.out.2⟩
  clear ho2 hb2 hp2 B1 P1 KO
  go_wp2_with fail
  refine (KT.out _ a2 c2 B2.out.2 B2.out.1 P2.out).mono ?_
  rintro r w3 ⟨v3, rfl, ho3, hb3⟩
  have O3 := hid (OwnR.lower ho3 B2.out.1.size)
  have B3 := hid (below_tr B2.out.1 hb3)
  clear ho3 hb3 B2 P2
  go_wp2_with fail
  go_ret2
  exact ⟨_, rfl, O3.out, B3.out⟩
end Go.Proofs.Ytlhkkhojfndoiab.PRun
