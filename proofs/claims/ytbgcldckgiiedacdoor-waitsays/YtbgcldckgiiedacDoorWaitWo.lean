/- wait.without, walked: the edges that touch no given node, in a row of its own; nothing that was there has turned. Conditions: how many edges there are. -/
import Derived.Test.YtbgcldckgiiedacDoorWaitNum
import Derived.Test.YtbgcldckgiiedacDoorGraphMem
namespace Go.Proofs.YtbgcldckgiiedacDoor.PWait
open Go Go.RowKit PPool PGraph
set_option maxRecDepth 100000

theorem wo_next {X : List Gr.Ed} {m : Nat} {x : Gr.Ed} (hx : X[m]? = some x) (k : Int) : Wa.wo (X.take (m + 1)) k = Wa.wo (X.take m) k ++ if Wa.touches k x then [] else [x] := by
  obtain ⟨h1, h2⟩ := List.getElem?_eq_some_iff.1 hx
  unfold Wa.wo
  rw [List.take_succ_eq_append_getElem h1, h2, List.filter_append]
  congr 1
  cases h : Wa.touches k x <;> simp [h]
theorem wo_len (X : List Gr.Ed) (m : Nat) (k : Int) : (Wa.wo (X.take m) k).length ≤ m := by
  unfold Wa.wo
  exact Nat.le_trans (List.length_filter_le _ _) (by rw [List.length_take]; exact Nat.min_le_left _ _)

set_option maxHeartbeats 4000000 in
theorem without_any (w : World) (a : Option Addr) (c : Nat) (X : List Gr.Ed) (k : Int) (h : PgAt w a X) (hl : X.length ≤ 100000) :
    Calls Tryd.prog 15 #[.slice a X.length c, .int .i64 k] w fun e w' => ∃ v, e = .returned v ∧ OwnPg w' w.heap.size v (Wa.wo X k) ∧ Below w.heap.size w w' := by
  have H := hid h
  obtain ⟨i0, hi, hz0, hz1, hz3⟩ := info_parts edge_info
  clear h
  go_enter Tryd.func15, Tryd.ntmps15
  go_wp2_with fail
  go_loopw [10, 5] (fun i vv wr => ∃ (m : Nat) (v : Value), m ≤ X.length ∧ i = .int .i64 (m : Int) ∧ v = vv ∧ Hid (OwnPg wr w.heap.size v (Wa.wo (X.take m) k)) ∧ Hid (Below w.heap.size w wr)) (fun i _ _ => X.length - (intOf i).toNat)
  case atStart => exact ⟨0, _, Nat.zero_le _, rfl, rfl, by show OwnPg _ _ _ _; simp [Wa.wo]; exact OwnPg.nil _ _, Below.refl _ _⟩
  case round =>
    obtain ⟨m, v, hm, rfl, rfl, hO, hb⟩ := hrel
    by_cases hlt : m < X.length
    · obtain ⟨x, hx⟩ : ∃ x, X[m]? = some x := ⟨_, List.getElem?_eq_getElem hlt⟩
      obtain ⟨b, o, rfl, d1, d2⟩ := (H.out.below hb.out) m x hx
      have m0 : (0 : Int) ≤ (m : Int) := by omega
      have m1 : (m : Int) < (X.length : Int) := by omega
      have HN := hid (wo_next hx k)
      have hlen := wo_len X m k
      obtain ⟨L, hL⟩ : ∃ L, L = Wa.wo (X.take m) k := ⟨_, rfl⟩
      obtain ⟨xf, xt⟩ := x
      simp only at d1 d2
      rw [← hL] at HN hO hlen
      have hbs := hb.out.size
      have OA := hid (hO.out.below (bx wr (.cells #[.int .i64 xf, .int .i64 xt] 34)))
      have BA : Hid (Below w.heap.size w (wr.alloc (.cells #[.int .i64 xf, .int .i64 xt] 34))) := below_tr hb.out (bx _ _)
      clear hx hL hO hb
      by_cases h1 : xf = k
      · have j1 : (xf != k) = false := by simp [h1]
        have HS : Hid (Wa.wo (X.take (m + 1)) k = L) := by
          show _ = _
          rw [HN.out]; simp [Wa.touches, h1]
        clear HN h1
        go_wp2_with fail
        go_roundw
        case rel => exact ⟨m + 1, _, by omega, by go_num, rfl, by rw [HS.out]; exact OA, BA⟩
        case measure => simp [intOf]; omega
      · have j1 : (xf != k) = true := by simpa using h1
        by_cases h2 : xt = k
        · have j2 : (xt != k) = false := by simp [h2]
          have HS : Hid (Wa.wo (X.take (m + 1)) k = L) := by
            show _ = _
            rw [HN.out]; simp [Wa.touches, h2]
          clear HN h1 h2
          go_wp2_with fail
          go_roundw
          case rel => exact ⟨m + 1, _, by omega, by go_num, rfl, by rw [HS.out]; exact OA, BA⟩
          case measure => simp [intOf]; omega
        · have j2 : (xt != k) = true := by simpa using h2
          have HS : Hid (Wa.wo (X.take (m + 1)) k = L ++ [⟨xf, xt⟩]) := by
            show _ = _
            rw [HN.out]; simp [Wa.touches, h1, h2]
          clear HN h1 h2
          obtain ⟨w1, hw1⟩ : ∃ w1, w1 = wr.alloc (.cells #[.int .i64 xf, .int .i64 xt] 34) := ⟨_, rfl⟩
          have A6 : ∀ o, OwnPg ((wr.alloc (.cells #[.int .i64 xf, .int .i64 xt] 34)).alloc o) w.heap.size v L := fun o => OA.out.below (bx _ _)
          have B6 : ∀ o, Below w.heap.size w ((wr.alloc (.cells #[.int .i64 xf, .int .i64 xt] 34)).alloc o) := fun o => below_tr BA.out (bx _ _)
          clear hw1 OA BA
          go_wp2_with (at_builtin; refine wpList_append_own _ rfl _ _ 22 rfl w.heap.size 34 i0 (.agg #[.int .i64 0, .int .i64 0]) 2 16 Tryd.underlying22 hi hz0 hz1 hz3 rfl (by decide) _ _ _ rfl (A6 _) ⟨wr.heap.size + 1, 0, none⟩ 1 1 (sc ⟨xf, xt⟩) rfl rfl ?c1 ?c2 ?c3 ?c4 ?c5 ?_)
          case c1 =>
            intro q u hu
            rw [Addr.add_mid]
            have hg := heap_alloc_new (wr.alloc (.cells #[.int .i64 xf, .int .i64 xt] 34)) (.cells #[.int .i64 xf, .int .i64 xt] 34)
            rw [World.size_alloc] at hg
            exact (cell_of_row _ _ _ _ _ _ hg).trans (by simpa [sc] using hu)
          case c2 => exact sc_one _
          case c3 => unfold maxLen; omega
          case c4 => omega
          case c5 => simp; omega
          intro v' w6 ho6 hg6 hnil6
          have A7 : Hid (OwnPg w6 w.heap.size v' (Wa.wo (X.take (m + 1)) k)) := by
            rw [HS.out]; exact OwnPg.grows ho6
          have B7 : Hid (Below w.heap.size w w6) := (B6 _).grown hg6 (by rw [World.size_alloc, World.size_alloc]; omega) (fun b hb => ((A6 (.cells #[.int .i64 xf, .int .i64 xt] 34)).lt b hb).1)
          clear ho6 hg6 hnil6 A6 B6 HS
          go_wp2_with fail
          go_roundw
          case rel => exact ⟨m + 1, _, by omega, by go_num, rfl, A7, B7⟩
          case measure => simp [intOf]; omega
    · obtain rfl : m = X.length := by omega
      have j3 : decide ((X.length : Int) < (X.length : Int)) = false := by simp
      rw [List.take_length] at hO
      go_wp2_with fail
      go_ret
      exact ⟨_, rfl, hO.out, hb.out⟩
end Go.Proofs.YtbgcldckgiiedacDoor.PWait
