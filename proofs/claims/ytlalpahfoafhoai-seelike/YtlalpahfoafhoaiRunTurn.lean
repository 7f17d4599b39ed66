/- quirref.Rest, quirkeep.inTurn, walked: each answers what the plain words say, in a row of one's own, and nothing that was there has turned. Conditions: how many operations there are; the order has each transaction once. -/
import Derived.Test.YtlalpahfoafhoaiRunOwns
namespace Go.Proofs.Ytlalpahfoafhoai.PRun
open Go Go.RowKit PPool PGraph
set_option maxRecDepth 100000

theorem rest_any (a n : Int) (w : World) (hn0 : 0 < n) (hn1 : n ≤ 140737488355328) :
    Calls Try.prog 14 #[.int .i64 a, .int .i64 n] w fun e w' => e = .returned (.int .i64 (a % n)) ∧ w' = w := by
  have t1 : a.tmod n < n := Int.tmod_lt_of_pos a hn0
  have t0 : -n < a.tmod n := by
    rcases Int.le_total 0 a with h | h
    · have := Int.tmod_nonneg n h; omega
    · have e : a.tmod n = -((-a).tmod n) := by rw [Int.neg_tmod, Int.neg_neg]
      have := Int.tmod_lt_of_pos (-a) hn0
      omega
  have HE : Hid ((a.tmod n + n) % n = a % n) := by
    show _ = _
    have e : a.tmod n = a + n * -(a.tdiv n) := by have := Int.tmod_add_mul_tdiv a n; rw [Int.mul_neg]; omega
    rw [Int.add_emod_right, e, Int.add_mul_emod_self_left]
  go_enter Try.func14, Try.ntmps14
  go_wp2_with fail
  go_ret
  exact ⟨by rw [← HE.out]; rfl, rfl⟩
theorem turn_step (X : List Rn.Op) {s : List Nat} {k t : Nat} (hs : s[k]? = some t) : Rn.turn X (s.take (k + 1)) = Rn.turn X (s.take k) ++ Rn.own X t := by
  obtain ⟨h1, h2⟩ := List.getElem?_eq_some_iff.1 hs
  unfold Rn.turn
  rw [List.take_succ_eq_append_getElem h1, h2, List.flatMap_append]
  simp
theorem own_turn_le {X : List Rn.Op} : ∀ {s : List Nat}, s.Nodup → (Rn.turn X s).length ≤ X.length
  | s, hn => by
    have e : Rn.turn X s = Rn.turn (X.filter fun o => decide (∃ t ∈ s, o.x = (t : Int))) s := Rn.turn_congr fun t ht => by
      unfold Rn.own
      rw [List.filter_filter]
      apply List.filter_congr
      intro o _
      by_cases h : o.x = t
      · have : ∃ t ∈ s, o.x = (t : Int) := ⟨t, ht, h⟩
        simp [h]; exact ⟨t, ht, rfl⟩
      · simp [h]
    rw [e, Rn.turn_len s _ hn (fun o ho => by simpa using (List.mem_filter.1 ho).2)]
    exact List.length_filter_le _ _
set_option maxHeartbeats 2000000 in
theorem turn_any (w : World) (a b : Option Addr) (c d : Nat) (X : List Rn.Op) (s : List Nat) (h : OpAt w a X) (hs : NatsAt w b s) (hl : X.length * 24 ≤ 140737488355328) (hn : s.Nodup) (hsl : s.length ≤ 9223372036854775807) :
    Calls Try.prog 13 #[.slice a X.length c, .slice b s.length d] w fun e w' => ∃ v, e = .returned v ∧ OwnOp w' w.heap.size v (Rn.turn X s) ∧ Below w.heap.size w w' := by
  have H := hid h
  have HS := hid hs
  have HN := hid hn
  have KO := hid fun W t h => own_any W a c X t h hl
  clear h hs hn
  go_enter Try.func13, Try.ntmps13
  go_wp2_with fail
  go_loopw [5, 7, 10] (fun v _ i wr => ∃ (k : Nat) (V : Value), k ≤ s.length ∧ V = v ∧ i = .int .i64 (k : Int) ∧ Hid (OwnOp wr w.heap.size V (Rn.turn X (s.take k))) ∧ Hid (Below w.heap.size w wr)) (fun _ _ i _ => s.length - (intOf i).toNat)
  case atStart => exact ⟨0, _, Nat.zero_le _, rfl, rfl, OwnOp.nil _ _, Below.refl _ _⟩
  case round =>
    obtain ⟨k, v, hk, rfl, rfl, hO, hb⟩ := hrel
    by_cases hlt : k < s.length
    · obtain ⟨t, ht⟩ : ∃ t, s[k]? = some t := ⟨_, List.getElem?_eq_getElem hlt⟩
      obtain ⟨b', o', rfl, d1⟩ := (HS.out.below hb.out) k t ht
      have k0 : (0 : Int) ≤ (k : Int) := by omega
      have k1 : (k : Int) < (s.length : Int) := by omega
      have HT := hid (turn_step X ht)
      have hlen : (Rn.turn X (s.take (k + 1))).length ≤ X.length := own_turn_le ((List.take_sublist _ _).nodup HN.out)
      rw [HT.out, List.length_append] at hlen
      have KO := hid fun W h => KO.out W t h
      clear ht
      obtain ⟨Y, hY⟩ : ∃ Y, Y = Rn.turn X (s.take k) := ⟨_, rfl⟩
      obtain ⟨Z, hZ⟩ : ∃ Z, Z = Rn.own X t := ⟨_, rfl⟩
      rw [← hY] at hO HT hlen
      rw [← hZ] at KO HT hlen
      clear hY hZ
      go_wp2_with fail
      refine (KO.out _ (H.out.below hb.out)).mono ?_
      rintro r w2 ⟨v2, rfl, ho2, hb2⟩
      have A2 : Hid (OwnOp w2 w.heap.size v Y ∧ Below w.heap.size w w2) := ⟨hO.out.below hb2, below_tr hb.out hb2⟩
      obtain ⟨a2, c2, rfl, hp2, -⟩ := ho2.at_
      have hnil : a2 = none → c2 = 0 := fun e => by subst e; exact own_nil ho2
      have P2 := hid hp2
      have HNil := hid hnil
      have HLen := hid hlen
      clear ho2 hb2 hO hb hp2 hnil KO d1 hlen
      go_wp2_with (at_builtin; refine wpList_append_op rfl _ _ rfl w.heap.size v Y rfl A2.out.1 a2 c2 Z.length Z rfl (by rfl) P2.out HNil.out (by have := HLen.out; omega) A2.out.2.size ?_)
      intro v' w4 ho4 hg4
      have O4 : Hid (OwnOp w4 w.heap.size v' (Rn.turn X (s.take (k + 1)))) := by rw [HT.out]; exact ho4
      have B4 : Hid (Below w.heap.size w w4) := grown_own A2.out.2 A2.out.1 hg4
      clear ho4 hg4 A2 HT
      go_wp2_with fail
      go_roundw
      case rel => exact ⟨k + 1, v', by omega, rfl, by go_num, O4, B4⟩
      case measure => simp [intOf]; omega
    · obtain rfl : k = s.length := by omega
      have j3 : decide ((s.length : Int) < (s.length : Int)) = false := by simp
      have hO2 : Hid (OwnOp wr w.heap.size v (Rn.turn X s)) := by have := hO.out; rwa [List.take_length] at this
      clear hO
      go_wp2_with fail
      go_ret
      exact ⟨_, rfl, hO2.out, hb.out⟩
end Go.Proofs.Ytlalpahfoafhoai.PRun
