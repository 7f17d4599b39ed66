/- quirref.Dead, walked: who comes to a loop, rising, in a row of its own; nothing that was there has turned. Conditions: a right graph. -/
import Derived.Test.YtbgcldckgiiedacDoorWaitNum
import Derived.Test.YtbgcldckgiiedacDoorGraphClo
namespace Go.Proofs.YtbgcldckgiiedacDoor.PWait
open Go Go.RowKit PPool PGraph
set_option maxRecDepth 100000

/-- As far as the first q nodes tell. -/
def lostTo (X : List Gr.Ed) (n k q : Nat) : Bool := Gr.W X n k k || (List.range q).any (fun i => Gr.W X n k i && Gr.W X n i i)
theorem lostTo_none (X : List Gr.Ed) (n k : Nat) : lostTo X n k 0 = Gr.W X n k k := by simp [lostTo]
theorem lostTo_next (X : List Gr.Ed) (n k q : Nat) : lostTo X n k (q + 1) = (lostTo X n k q || Gr.W X n k q && Gr.W X n q q) := by
  unfold lostTo
  rw [List.range_succ, List.any_append]
  simp [Bool.or_assoc]
theorem lostTo_all (X : List Gr.Ed) (n k : Nat) : lostTo X n k n = Wa.lost X n k := rfl

set_option maxHeartbeats 4000000 in
theorem rdead_any (w : World) (n : Nat) (a : Option Addr) (c : Nat) (X : List Gr.Ed) (h : PgAt w a X) (hR : Right n X) :
    Calls Tryd.prog 9 #[.int .i64 (n : Int), .slice a X.length c] w fun e w' => ∃ v, e = .returned v ∧ OwnNats w' w.heap.size v ((List.range n).filter (Wa.lost X n)) ∧ Below w.heap.size w w' := by
  have hn := hR.1
  have KC := hid (clo_any w n a c X h hR)
  obtain ⟨i0, hi, hz0, hz1, hz2⟩ := info_parts int_info3
  clear h hR
  go_enter Tryd.func9, Tryd.ntmps9
  go_wp2_with fail
  refine (KC.out).mono ?_
  rintro r w1 ⟨rfl, hm1, hb1⟩
  have HM := hid hm1
  have B0 := hid hb1
  obtain ⟨D, hD⟩ : ∃ D, D = w.heap.size := ⟨_, rfl⟩
  rw [← hD] at HM B0 ⊢
  have HD := hid hD
  obtain ⟨w3, hw3⟩ : ∃ w3, w3 = w1 := ⟨_, rfl⟩
  rw [← hw3] at HM B0 ⊢
  clear KC hm1 hb1 hD hw3
  go_wp2_with fail
  go_loopw [14, 6] (fun i v wr => ∃ k : Nat, k ≤ n ∧ i = .int .i64 (k : Int) ∧ OwnNats wr w3.heap.size v ((List.range k).filter (Wa.lost X n)) ∧ Hid (Below w3.heap.size w3 wr)) (fun i _ _ => n - (intOf i).toNat)
  case atStart => exact ⟨0, Nat.zero_le _, rfl, OwnR.nil _ _, Below.refl _ _⟩
  case round =>
    obtain ⟨k, hk, rfl, hown, hb⟩ := hrel
    by_cases hlk : k < n
    · have k0 : (0 : Int) ≤ (k : Int) := by omega
      have k1 : (k : Int) < (n : Int) := by omega
      have HO := hid hown
      obtain ⟨wk, hwk⟩ : ∃ wk, wk = wr := ⟨_, rfl⟩
      rw [← hwk] at HO hb ⊢
      have MK := hid (HM.out.below hb.out)
      have m1 := MK.out.head hlk
      have m2 := MK.out.cell hlk hlk
      have R0 : Hid (Gr.W X n k k = lostTo X n k 0) := (lostTo_none X n k).symm
      generalize Gr.W X n k k = b0 at *
      clear hwk hown
      go_wp2_with fail
      go_loopw [25, 8] (fun i r wr => ∃ q : Nat, q ≤ n ∧ i = .int .i64 (q : Int) ∧ r = .bool (lostTo X n k q) ∧ wk = wr) (fun i _ _ => n - (intOf i).toNat)
      case atStart => exact ⟨0, Nat.zero_le _, rfl, by rw [← R0.out], rfl⟩
      case round =>
        clear m1 m2 R0
        obtain ⟨q, hq, rfl, rfl, rfl⟩ := hrel
        by_cases hlq : q < n
        · have q0 : (0 : Int) ≤ (q : Int) := by omega
          have q1 : (q : Int) < (n : Int) := by omega
          have c1 := MK.out.head hlk
          have c2 := MK.out.cell hlk hlq
          have c3 := MK.out.head hlq
          have c4 := MK.out.cell hlq hlq
          have RN := hid (lostTo_next X n k q)
          obtain ⟨r1, hr1⟩ : ∃ r1, r1 = lostTo X n k (q + 1) := ⟨_, rfl⟩
          have HR1 := hid hr1
          rw [← hr1] at RN
          clear hr1
          generalize Gr.W X n k q = x1 at *
          generalize Gr.W X n q q = x2 at *
          cases hr : lostTo X n k q with
          | true =>
            have E1 : Hid (true = r1) := by show _ = _; rw [RN.out, hr]; rfl
            clear hr RN c1 c2 c3 c4
            go_wp2_with fail
            go_roundw
            case rel => exact ⟨q + 1, by omega, by go_num, by rw [← HR1.out, ← E1.out], by first | rfl | trivial⟩
            case measure => simp [intOf]; omega
          | false =>
            rw [hr, Bool.false_or] at RN
            clear hr
            cases x1 with
            | false =>
              have E1 : Hid (false = r1) := by show _ = _; rw [RN.out]; rfl
              clear RN c3 c4
              go_wp2_with fail
              go_roundw
              case rel => exact ⟨q + 1, by omega, by go_num, by rw [← HR1.out, ← E1.out], by first | rfl | trivial⟩
              case measure => simp [intOf]; omega
            | true =>
              have E1 : Hid (x2 = r1) := by show _ = _; rw [RN.out]; rfl
              clear RN
              go_wp2_with fail
              go_roundw
              case rel => exact ⟨q + 1, by omega, by go_num, by rw [← HR1.out, ← E1.out], by first | rfl | trivial⟩
              case measure => simp [intOf]; omega
        · obtain rfl : q = n := by omega
          have j4 : decide ((q : Int) < (q : Int)) = false := by simp
          have HF := Gr.filter_next (Wa.lost X q) k
          have hfl := Gr.filter_len (Wa.lost X q) k
          rw [lostTo_all]
          cases hk2 : Wa.lost X q k with
          | false =>
            rw [hk2] at HF
            rw [if_neg (by simp), List.append_nil] at HF
            rw [← HF] at HO
            clear HF hk2
            go_wp2_with fail
            go_roundw
            case rel => exact ⟨k + 1, by omega, by go_num, HO.out, hb⟩
            case measure => simp [intOf]; omega
          | true =>
            rw [hk2] at HF
            rw [if_pos rfl] at HF
            have hown1 : wk.ownsRow w3.heap.size 3 1 _ _ (((List.range k).filter (Wa.lost X q)).map nc) := HO.out
            generalize (List.range k).filter (Wa.lost X q) = L at *
            obtain ⟨D2, hD2⟩ : ∃ D2, D2 = (List.range (k + 1)).filter (Wa.lost X q) := ⟨_, rfl⟩
            rw [← hD2] at HF
            have HL := hid HF
            have HD2 := hid hD2
            have hbs := hb.out.size
            clear HF hk2 hD2 HO
            go_wp2_with (at_builtin; refine wpList_append_own _ rfl _ _ 25 rfl w3.heap.size 3 i0 (.int .i64 0) 1 8 Tryd.underlying25 hi hz0 hz1 hz2 rfl (by decide) _ _ _ rfl (hown1.alloc _) ⟨wk.heap.size, 0, none⟩ 1 1 [nc k] rfl rfl ?c1 ?c2 ?c3 ?c4 ?c5 ?_)
            case c1 => exact cell_one_new _ _ _
            case c2 => exact nats_one [k]
            case c3 => unfold maxLen; omega
            case c4 => omega
            case c5 => simp; omega
            intro v' w4 hown' hgrow hnil
            have O4 : Hid (OwnNats w4 w3.heap.size v' D2) := by show OwnNats _ _ _ _; rw [HL.out]; exact OwnR.grows hown'
            have B4 : Hid (Below w3.heap.size w3 w4) := (hb.out.alloc hbs _).grown hgrow (by rw [World.size_alloc]; omega) (fun b hb => (hown1.lt b hb).1)
            clear hown' hgrow hnil hown1 hb
            go_wp2_with fail
            go_roundw
            case rel => exact ⟨k + 1, by omega, by go_num, by rw [← HD2.out]; exact O4.out, B4⟩
            case measure => simp [intOf]; omega
    · obtain rfl : k = n := by omega
      have j4 : decide ((k : Int) < (k : Int)) = false := by simp
      have HO := hid hown
      clear hown
      go_wp2_with fail
      go_ret
      exact ⟨_, rfl, HO.out.lower B0.out.size, by rw [HD.out] at B0; exact below_tr B0.out hb.out⟩
end Go.Proofs.YtbgcldckgiiedacDoor.PWait
