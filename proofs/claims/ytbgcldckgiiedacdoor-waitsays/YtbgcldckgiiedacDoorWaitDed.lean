/- wait.Dead, walked: who never can go on, rising, in a row of its own; nothing that was there has turned. Conditions: how many edges there are. -/
import Derived.Test.YtbgcldckgiiedacDoorWaitOvr
import Derived.Test.YtbgcldckgiiedacDoorGraphCheck
namespace Go.Proofs.YtbgcldckgiiedacDoor.PWait
open Go Go.RowKit PPool PGraph
set_option maxRecDepth 100000

theorem right_in {n : Nat} {X : List Gr.Ed} (h : Right n X) : Wa.In X n := fun e he => by
  obtain ⟨i, j, rfl, hi, hj⟩ := h.2.2 e he
  simp [Gr.ed]; omega

set_option maxHeartbeats 4000000 in
theorem dead_any (w : World) (n : Int) (a : Option Addr) (c : Nat) (X : List Gr.Ed) (h : PgAt w a X) (hl : X.length ≤ 9223372036854775807) :
    Calls Tryd.prog 5 #[.int .i64 n, .slice a X.length c] w fun e w' => ∃ v, e = .returned (.tuple #[v, .int .i64 (Gr.check n X)]) ∧ OwnNats w' w.heap.size v (Wa.dead n X) ∧ Below w.heap.size w w' := by
  have H := hid h
  have HC := hid (check_any w n a c X h hl)
  by_cases h0 : Gr.check n X = 0
  · obtain ⟨n, rfl, hR⟩ := Right.of h0
    have HR := hid hR
    have hn := hR.1
    have hX2 := hR.2.1
    have HIn := hid (right_in hR)
    have e2 : Wa.dead (n : Int) X = (List.range n).filter (Wa.lost X n) := by unfold Wa.dead; rw [if_pos h0, Int.toNat_natCast]
    rw [h0] at HC ⊢
    rw [e2]
    have KN := hid fun W r a0 c0 h0 hp => nextOver_any W n r a0 c0 a c X h0 hp hR
    have hmk := run_make_bools n (by omega)
    have OB : Hid (∀ W : World, OwnBools (W.alloc (.cells (madeCells #[.bool false] (n * 1)) 4)) W.heap.size (.slice (some ⟨W.heap.size, 0, none⟩) n n) (Wa.bow (Wa.over X 0) n)) := fun W => by
      have := row_made Value.bool 4 false W n (by unfold maxLen; omega)
      rw [show Wa.over X 0 = fun _ : Nat => false from rfl, Wa.bow_const]
      exact this
    obtain ⟨M, hM⟩ : ∃ M, M = madeCells #[Value.bool false] (n * 1) := ⟨_, rfl⟩
    rw [← hM] at hmk OB
    obtain ⟨i0, hi, hz0, hz1, hz2⟩ := info_parts int_info3
    clear h h0 e2 hR hM hX2
    go_enter Tryd.func5, Tryd.ntmps5
    go_wp2_with fail
    refine (HC.out).mono ?_
    rintro r w1 ⟨rfl, hb1⟩
    have B1 := hid hb1
    have O1 := hid (OB.out w1)
    clear hb1 HC OB
    go_wp2_with fail
    go_loopw [19, 7] (fun i v wr => ∃ r : Nat, r ≤ n ∧ i = .int .i64 (r : Int) ∧ Hid (OwnBools wr w1.heap.size v (Wa.bow (Wa.over X r) n)) ∧ Hid (Below w1.heap.size w1 wr)) (fun i _ _ => n - (intOf i).toNat)
    case atStart => exact ⟨0, Nat.zero_le _, rfl, O1, bx _ _⟩
    case round =>
      clear hmk O1
      obtain ⟨r, hr, rfl, hO, hb⟩ := hrel
      by_cases hlt : r < n
      · have r1 : (r : Int) < (n : Int) := by omega
        obtain ⟨a0, c0, rfl, hp0, -⟩ := hO.out.at_
        rw [Wa.bow_len]
        have HK := hid (KN.out wr r a0 c0 hp0 ((H.out.below B1.out).below hb.out))
        clear hO hp0
        go_wp2_with fail
        refine (HK.out).mono ?_
        rintro r2 w2 ⟨v2, rfl, ho2, hb2⟩
        have O2 : Hid (OwnBools w2 w1.heap.size v2 (Wa.bow (Wa.over X (r + 1)) n)) := ho2.lower hb.out.size
        have B2 : Hid (Below w1.heap.size w1 w2) := below_tr hb.out hb2
        clear ho2 hb2 hb HK
        go_wp2_with fail
        go_roundw
        case rel => exact ⟨r + 1, by omega, by go_num, O2, B2⟩
        case measure => simp [intOf]; omega
      · obtain rfl : r = n := by omega
        have j3 : decide ((r : Int) < (r : Int)) = false := by simp
        have e : Wa.bow (Wa.over X r) r = Wa.bow (fun k => !Wa.lost X r k) r := Wa.bow_congr fun k hk => Wa.over_all HIn.out hk
        rw [e] at hO
        obtain ⟨a0, c0, rfl, hp0, -⟩ := hO.out.at_
        rw [Wa.bow_len]
        have P0 := hid hp0
        have B0 := hid (below_tr B1.out hb.out)
        obtain ⟨w3, hw3⟩ : ∃ w3, w3 = wr := ⟨_, rfl⟩
        rw [← hw3] at P0 B0 ⊢
        clear e hO hp0 hb KN hw3
        go_wp2_with fail
        go_loopw [26, 8] (fun i v wr => ∃ k : Nat, k ≤ r ∧ i = .int .i64 (k : Int) ∧ OwnNats wr w3.heap.size v ((List.range k).filter (Wa.lost X r)) ∧ Hid (Below w3.heap.size w3 wr)) (fun i _ _ => r - (intOf i).toNat)
        case atStart => exact ⟨0, Nat.zero_le _, rfl, OwnR.nil _ _, Below.refl _ _⟩
        case round =>
          obtain ⟨k, hk, rfl, hown, hb⟩ := hrel
          by_cases hlk : k < r
          · have k0 : (0 : Int) ≤ (k : Int) := by omega
            have k1 : (k : Int) < (r : Int) := by omega
            have HF := Gr.filter_next (Wa.lost X r) k
            have hfl := Gr.filter_len (Wa.lost X r) k
            obtain ⟨b0, o0, rfl, d3⟩ := (P0.out.below hb.out) k _ (Wa.bow_at _ hlk)
            cases hk2 : Wa.lost X r k with
            | false =>
              rw [hk2] at HF d3
              rw [if_neg (by simp), List.append_nil] at HF
              rw [← HF] at hown
              have d4 : wr.cell? ⟨b0, o0 + k, none⟩ = some (.bool true) := d3
              have HO := hid hown
              clear HF hk2 d3 hown
              go_wp2_with fail
              go_roundw
              case rel => exact ⟨k + 1, by omega, by go_num, HO.out, hb⟩
              case measure => simp [intOf]; omega
            | true =>
              rw [hk2] at HF d3
              rw [if_pos rfl] at HF
              have d4 : wr.cell? ⟨b0, o0 + k, none⟩ = some (.bool false) := d3
              have hown1 : wr.ownsRow w3.heap.size 3 1 _ _ (((List.range k).filter (Wa.lost X r)).map nc) := hown
              generalize (List.range k).filter (Wa.lost X r) = D at *
              obtain ⟨D2, hD2⟩ : ∃ D2, D2 = (List.range (k + 1)).filter (Wa.lost X r) := ⟨_, rfl⟩
              rw [← hD2] at HF
              have HD := hid HF
              have HD2 := hid hD2
              have hbs := hb.out.size
              clear HF hk2 d3 hown hD2
              go_wp2_with (at_builtin; refine wpList_append_own _ rfl _ _ 25 rfl w3.heap.size 3 i0 (.int .i64 0) 1 8 Tryd.underlying25 hi hz0 hz1 hz2 rfl (by decide) _ _ _ rfl (hown1.alloc _) ⟨wr.heap.size, 0, none⟩ 1 1 [nc k] rfl rfl ?c1 ?c2 ?c3 ?c4 ?c5 ?_)
              case c1 => exact cell_one_new _ _ _
              case c2 => exact nats_one [k]
              case c3 => unfold maxLen; omega
              case c4 => omega
              case c5 => simp; omega
              intro v' w4 hown' hgrow hnil
              have O4 : Hid (OwnNats w4 w3.heap.size v' D2) := by show OwnNats _ _ _ _; rw [HD.out]; exact OwnR.grows hown'
              have B4 : Hid (Below w3.heap.size w3 w4) := (hb.out.alloc hbs _).grown hgrow (by rw [World.size_alloc]; omega) (fun b hb => (hown1.lt b hb).1)
              clear hown' hgrow hnil hown1 hb
              go_wp2_with fail
              go_roundw
              case rel => exact ⟨k + 1, by omega, by go_num, by rw [← HD2.out]; exact O4.out, B4⟩
              case measure => simp [intOf]; omega
          · obtain rfl : k = r := by omega
            have j4 : decide ((k : Int) < (k : Int)) = false := by simp
            have HO := hid hown
            clear hown
            go_wp2_with fail
            go_ret2
            exact ⟨_, rfl, HO.out.lower B0.out.size, below_tr B0.out hb.out⟩
  · have e2 : Wa.dead n X = [] := if_neg h0
    rw [e2]
    generalize Gr.check n X = Y at *
    have j1 : (Y != 0) = true := by simpa using h0
    clear h H h0 e2
    go_enter Tryd.func5, Tryd.ntmps5
    go_wp2_with fail
    refine (HC.out).mono ?_
    rintro r w1 ⟨rfl, hb1⟩
    go_wp2_with fail
    go_ret2
    exact ⟨_, rfl, OwnR.nil _ _, hb1⟩
end Go.Proofs.YtbgcldckgiiedacDoor.PWait
