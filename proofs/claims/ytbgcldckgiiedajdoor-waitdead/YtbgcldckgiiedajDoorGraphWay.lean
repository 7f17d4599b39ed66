/- graph.Reach, walked: it answers what the plain words say, in a row of its own; nothing that was there has turned. Conditions: how many edges there are; the library's table is as its initialiser lays it. -/
import Derived.Test.YtbgcldckgiiedajDoorGraphReach
import Derived.Test.YtbgcldckgiiedajDoorGraphList
import Derived.Test.YtbgcldckgiiedajDoorGraphPart
import Derived.Test.YtbgcldckgiiedajDoorGraphCheck
import Derived.Test.YtbgcldckgiiedajDoorGraphRows
namespace Go.Proofs.YtbgcldckgiiedajDoor.PGraph
open Go Go.RowKit PPool
set_option maxRecDepth 100000

set_option maxHeartbeats 4000000 in
theorem way_any (w : World) (n : Int) (a : Option Addr) (c : Nat) (X : List Gr.Ed) (k : Int) (h : PgAt w a X) (hl : X.length ≤ 9223372036854775807) (hT : Tab w) :
    Calls Tryd.prog 7 #[.int .i64 n, .slice a X.length c, .int .i64 k] w fun e w' => ∃ v, e = .returned (.tuple #[v, .int .i64 (Gr.wayCode n X k)]) ∧ OwnNats w' w.heap.size v (Gr.wayList n X k) ∧ Below w.heap.size w w' := by
  have H := hid h
  have HC := hid (check_any w n a c X h hl)
  by_cases h0 : Gr.check n X = 0
  · obtain ⟨n, rfl, hR⟩ := Right.of h0
    have HR := hid hR
    have hn := hR.1
    have HN := hid fun W => isNode_any W (n : Int) k
    rw [h0] at HC
    cases hk : Gr.node (n : Int) k with
    | false =>
      have e1 : Gr.wayCode (n : Int) X k = 1 := by unfold Gr.wayCode; rw [if_pos h0, hk]; rfl
      have e2 : Gr.wayList (n : Int) X k = [] := by unfold Gr.wayList; rw [if_pos h0, hk]; rfl
      rw [hk] at HN
      rw [e1, e2]
      clear h h0 e1 e2 hk
      go_enter Tryd.func7, Tryd.ntmps7
      go_wp2_with fail
      refine (HC.out).mono ?_
      rintro r w1 ⟨rfl, hb1⟩
      go_wp2_with fail
      refine (HN.out _).mono ?_
      rintro r w2 ⟨rfl, hb2⟩
      go_wp2_with fail
      go_ret2
      exact ⟨_, rfl, OwnR.nil _ _, below_tr hb1 hb2⟩
    | true =>
      obtain ⟨k, rfl, hkn⟩ : ∃ m : Nat, k = m ∧ m < n := by
        simp [Gr.node] at hk
        exact ⟨k.toNat, by omega, by omega⟩
      have e1 : Gr.wayCode (n : Int) X (k : Int) = 0 := by unfold Gr.wayCode; rw [if_pos h0, hk]; rfl
      have e2 : Gr.wayList (n : Int) X (k : Int) = (List.range n).filter (Gr.W X n k) := by unfold Gr.wayList; rw [if_pos h0, hk, if_pos rfl, Int.toNat_natCast, Int.toNat_natCast]
      rw [hk] at HN
      rw [e1, e2, ← Gr.up_mask (Gr.W X n k) hn]
      have KR := hid fun W hp => reach_any W n a c X hp hR
      have hat : (Gr.ways X n)[k]? = some (Gr.mask (Gr.W X n k) n) := Gr.row_at _ hkn
      have hlt := Gr.mask_lt64 (Gr.W X n k) hn
      generalize Gr.mask (Gr.W X n k) n = s at *
      have KL := hid fun W hp => list_any W s hlt hp
      have HT := hid hT
      have k0 : (0 : Int) ≤ (k : Int) := by omega
      have k1 : (k : Int) < (n : Int) := by omega
      clear h h0 e1 e2 hk hlt hT
      go_enter Tryd.func7, Tryd.ntmps7
      go_wp2_with fail
      refine (HC.out).mono ?_
      rintro r w1 ⟨rfl, hb1⟩
      have B1 := hid hb1
      go_wp2_with fail
      refine (HN.out _).mono ?_
      rintro r w2 ⟨rfl, hb2⟩
      have B2 : Hid (Below w.heap.size w w2) := below_tr B1.out hb2
      clear hb1 hb2 B1
      go_wp2_with fail
      refine (KR.out _ (H.out.below B2.out)).mono ?_
      rintro r w3 ⟨v3, rfl, ho3, hb3⟩
      obtain ⟨a3, c3, rfl, hp3, -⟩ := ho3.at_
      rw [show (Gr.ways X n).length = n from Gr.row_len _ _]
      obtain ⟨b, o, rfl, d1⟩ := hp3 k s hat
      have B3 : Hid (Below w.heap.size w w3) := below_tr B2.out hb3
      clear hb3 ho3 hp3 hat
      go_wp2_with fail
      refine (KL.out _ (HT.out.below B3.out)).mono ?_
      rintro r w4 ⟨v4, rfl, ho4, hb4⟩
      go_wp2_with fail
      go_ret2
      exact ⟨_, rfl, ho4.lower B3.out.size, below_tr B3.out hb4⟩
  · have e1 : Gr.wayCode n X k = Gr.check n X := if_neg h0
    have e2 : Gr.wayList n X k = [] := if_neg h0
    rw [e1, e2]
    generalize Gr.check n X = Y at *
    have j1 : (Y != 0) = true := by simpa using h0
    clear h H h0 e1 e2
    go_enter Tryd.func7, Tryd.ntmps7
    go_wp2_with fail
    refine (HC.out).mono ?_
    rintro r w1 ⟨rfl, hb1⟩
    go_wp2_with fail
    go_ret2
    exact ⟨_, rfl, OwnR.nil _ _, hb1⟩
end Go.Proofs.YtbgcldckgiiedajDoor.PGraph
