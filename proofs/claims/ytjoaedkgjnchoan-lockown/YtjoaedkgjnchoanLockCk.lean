/- lock.Check, walked: it answers what the plain words say, and nothing that was there has turned. Conditions: the table lies where its slice says; a length that an int holds. -/
import Derived.Test.YtjoaedkgjnchoanLockChk
namespace Go.Proofs.Ytjoaedkgjnchoan.PLock
open Go Go.RowKit PPool
set_option maxRecDepth 100000

set_option maxHeartbeats 2000000 in
theorem check_any (w : World) (a : Option Addr) (c : Nat) (T : List Lk.It) (h : TbAt w a T) (hl : T.length ≤ 9223372036854775807) :
    Calls Try.prog 45 #[.slice a T.length c] w fun e w' => e = .returned (.int .i64 (Lk.check T)) ∧ Below w.heap.size w w' := by
  obtain ⟨Y, hY⟩ : ∃ Y, Y = Lk.check T := ⟨_, rfl⟩
  rw [← hY]
  unfold Lk.check at hY
  by_cases h20 : 20 < T.length
  · rw [if_pos h20] at hY
    have HY := hid hY
    have j : (20 : Int) < (T.length : Int) := by omega
    clear hY h h20
    go_enter Try.func45, Try.ntmps45
    go_wp2_with fail
    go_ret
    exact ⟨by rw [HY.out]; rfl, Below.refl _ _⟩
  rw [if_neg h20] at hY
  have HY := hid hY
  have H := hid h
  have KI := hid fun W m => isItem_any W m
  have KR := hid fun W x i vh vq h1 h2 => isRight_any W x i vh vq h1 h2
  have j : ¬ (20 : Int) < (T.length : Int) := by omega
  clear hY h h20
  go_enter Try.func45, Try.ntmps45
  go_wp2_with fail
  go_loopw [3, 11] (fun n i wr => ∃ (k : Nat) (m : Int), k ≤ T.length ∧ i = .int .i64 (k : Int) ∧ n = .int .i64 m ∧ 0 ≤ m ∧ m ≤ 20 ∧ Hid (Y = Lk.chk m (T.drop k)) ∧ Hid (Below w.heap.size w wr)) (fun _ i _ => T.length - (intOf i).toNat)
  case atStart => exact ⟨0, 0, Nat.zero_le _, rfl, rfl, by omega, by omega, HY.out, Below.refl _ _⟩
  case round =>
    clear HY
    obtain ⟨k, m, hk, rfl, rfl, hm0, hm1, hC, hb⟩ := hrel
    by_cases hlt : k < T.length
    · obtain ⟨x, hx⟩ : ∃ x, T[k]? = some x := ⟨_, List.getElem?_eq_getElem hlt⟩
      obtain ⟨b, o, vh, vq, rfl, d0, d1, d2, lh, lq⟩ := (H.out.below hb.out) k x hx
      have k0 : (0 : Int) ≤ (k : Int) := by omega
      have k1 : (k : Int) < (T.length : Int) := by omega
      rw [drop_of hx] at hC
      unfold Lk.chk at hC
      have one1 := lh.one
      have one2 := lq.one
      have B3 : Hid (Below w.heap.size w (wr.alloc (.cells #[.int .i64 x.i, vh, vq] 66))) := below_tr hb.out (bx _ _)
      have K1 := hid (KI.out (wr.alloc (.cells #[.int .i64 x.i, vh, vq] 66)) x.i)
      have K2 := hid (KR.out (wr.alloc (.cells #[.int .i64 x.i, vh, vq] 66)) x x.i vh vq (lh.below (bx _ _)) (lq.below (bx _ _)))
      have ehit := Lk.item_iff (t := x.i)
      have hC := hid hC.out
      clear hx hb
      generalize x.i = xi at *
      generalize Lk.rightB x = R at *
      obtain ⟨ah, ch, rfl, _⟩ := lh
      obtain ⟨aq, cq, rfl, _⟩ := lq
      generalize x.h.length = nh at *
      generalize x.q.length = nq at *
      cases hi : Lk.item xi with
      | false =>
        have HF : Hid (Y = 1) := by have := hC.out; rw [if_pos hi] at this; exact this
        rw [hi] at K1
        clear hC ehit
        go_wp2_with fail
        refine K1.out.mono ?_
        rintro r w2 ⟨rfl, hw⟩
        obtain rfl := hw.symm
        go_wp2_with fail
        go_ret
        exact ⟨by rw [HF.out]; rfl, B3.out⟩
      | true =>
        have hxi := ehit.1 hi
        rw [hi] at K1
        rw [if_neg (by rw [hi]; simp)] at hC
        clear ehit hi
        by_cases hn : xi < m
        · have HF : Hid (Y = 4) := by have := hC.out; rw [if_pos (.inl hn)] at this; exact this
          clear hC
          go_wp2_with fail
          refine K1.out.mono ?_
          rintro r w2 ⟨rfl, hw⟩
          obtain rfl := hw.symm
          go_wp2_with fail
          go_ret
          exact ⟨by rw [HF.out]; rfl, B3.out⟩
        · have hn' : decide (xi < m) = false := by simpa using hn
          cases R with
          | false =>
            have HF : Hid (Y = 4) := by have := hC.out; rw [if_pos (.inr rfl)] at this; exact this
            clear hC
            go_wp2_with fail
            refine K1.out.mono ?_
            rintro r w2 ⟨rfl, hw⟩
            obtain rfl := hw.symm
            go_wp2_with fail
            refine K2.out.mono ?_
            rintro r w2 ⟨rfl, hb⟩
            have B4 := hid (below_tr B3.out hb)
            clear hb
            go_wp2_with fail
            go_ret
            exact ⟨by rw [HF.out]; rfl, B4.out⟩
          | true =>
            have HF : Hid (Y = Lk.chk (xi + 1) (T.drop (k + 1))) := by have := hC.out; rw [if_neg (by simpa using hn)] at this; exact this
            have hw1 : IntKind.i64.wrap (xi + 1) = xi + 1 := IntWalk.i64_in _ ⟨by omega, by omega⟩
            have x0 : 0 ≤ xi + 1 := by omega
            have x1 : xi + 1 ≤ 20 := by omega
            clear hC hxi hm0 hm1
            go_wp2_with fail
            refine K1.out.mono ?_
            rintro r w2 ⟨rfl, hw⟩
            obtain rfl := hw.symm
            go_wp2_with fail
            refine K2.out.mono ?_
            rintro r w2 ⟨rfl, hb⟩
            obtain ⟨c0, c1, c2⟩ := ibox hb
            have B4 := hid (below_tr B3.out hb)
            clear hb
            go_wp2_with fail
            go_roundw
            case rel => exact ⟨k + 1, xi + 1, by omega, by go_num, rfl, x0, x1, HF, B4⟩
            case measure => simp [intOf]; omega
    · obtain rfl : k = T.length := by omega
      have j3 : decide ((T.length : Int) < (T.length : Int)) = false := by simp
      have HK : Hid (Y = 0) := by have := hC.out; rw [List.drop_length] at this; exact this
      clear hC
      go_wp2_with fail
      go_ret
      exact ⟨by rw [HK.out]; rfl, hb.out⟩
end Go.Proofs.Ytjoaedkgjnchoan.PLock
