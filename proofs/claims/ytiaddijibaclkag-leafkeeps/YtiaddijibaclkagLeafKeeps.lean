/- quirkeep.LeafKeeps, walked: it answers true, and nothing that was there has turned. Conditions: how many slots there are, how long the texts are. -/
import Derived.Test.YtiaddijibaclkagLeafDrop
import Derived.Test.YtiaddijibaclkagLeafSame
namespace Go.Proofs.Ytiaddijibaclkag.PLeaf
open Go Go.RowKit
set_option maxRecDepth 100000

def xb : ByteArray := ⟨#[120]⟩
theorem put_nil : Lf.put [] xb = ([⟨true, xb⟩], 0, 0) := by
  have h0 : Lf.check [] = 0 := by decide
  have h1 : Lf.check (Lf.putX [] xb) = 0 := by decide
  unfold Lf.put
  rw [if_pos h0, if_pos h1]
  rfl
theorem pg_nil (W : World) : PgIn W none [] := ⟨PgAt.nil _ _, by simp, fun x hx => by simp at hx⟩

set_option maxHeartbeats 4000000 in
theorem keeps_walk (w : World) (a : Option Addr) (c : Nat) (X : List Lf.Sl) (t : ByteArray) (k : Int) (h : PgIn w a X) (ht : t.size ≤ 140737488355328) :
    Calls Try.prog 3 #[.agg #[.slice a X.length c], .string t, .int .i64 k] w fun e w' => e = .returned (.bool true) ∧ Below w.heap.size w w' := by
  have K0 := hid fun W => put_any W none 0 [] xb (pg_nil W) (by show 1 ≤ _; omega)
  rw [put_nil] at K0
  have K1 := hid fun W (hW : PgIn W a X) => put_any W a c X t hW ht
  have hl := h.len
  have H := hid h
  have hl' : (X.length : Int) ≤ 5864062014806 := by omega
  have ht' : (t.size : Int) ≤ 140737488355328 := by omega
  clear h
  by_cases hz : Lf.check X = 0 ∧ Lf.check (Lf.putX X t) = 0
  · obtain ⟨hc, hz⟩ := hz
    have hP : Lf.put X t = (Lf.putX X t, Lf.first X, 0) := by unfold Lf.put; rw [if_pos hc, if_pos hz]
    have hl2 := (Lf.check_ok hz).1
    have HTP : Hid (Txs (Lf.putX X t)) := by
      show Txs _
      have hm := Lf.text_le (Lf.putX X t)
      have := Lf.size_eq (Lf.putX X t)
      have := (Lf.check_ok hz).2.2.2
      intro x hx
      have := hm x hx
      omega
    rw [hP] at K1
    have G1 := hid fun W a' c' (hW : PgIn W a' (Lf.putX X t)) => get_any W a' c' (Lf.putX X t) (Lf.first X : Int) hW
    rw [Lf.get_put hz] at G1
    have G2 := hid fun W (hW : PgIn W a X) => get_any W a c X (Lf.first X : Int) hW
    rw [Lf.get_first hc] at G2
    have D1 := hid fun W a' c' (hW : PgIn W a' (Lf.putX X t)) => drop_any W a' c' (Lf.putX X t) (Lf.first X : Int) hW
    rw [Lf.drop_of_put hc hz] at D1
    have G3 := hid fun W (hW : PgIn W a X) => get_any W a c X k hW
    have G4 := hid fun W a' c' (hW : PgIn W a' (Lf.putX X t)) => get_any W a' c' (Lf.putX X t) k hW
    have SM := hid fun W a' c' (hW : PgAt W a' X) (hW2 : PgAt W a X) => same_any W a' a c' c X X hW hW2 (by omega) (by omega)
    have HE : Hid (k ≠ (Lf.first X : Int) → Lf.get (Lf.putX X t) k = Lf.get X k) := fun hk => Lf.get_else hc hz hk
    have htt := str_same (rfl : t = t)
    have hfl := Lf.first_le X
    generalize Lf.putX X t = Z at *
    generalize Lf.first X = F at *
    clear hc hP hz
    go_enter Try.func3, Try.ntmps3
    go_wp2_with fail
    refine (K0.out _).mono ?_
    rintro r w1 ⟨v1, rfl, ho1, hb⟩
    obtain ⟨g1, c1, rfl, _⟩ := ho1.some (by simp)
    have B1 := hid (below_tr hb (bx w1 (.cells #[.slice (some ⟨g1, 0, none⟩) 1 c1] 24)))
    have c0 := box1 B1.out
    clear hb K0 ho1
    go_wp2_with fail
    refine (K1.out _ (H.out.below (below_tr (bx _ _) B1.out))).mono ?_
    rintro r w2 ⟨v2, rfl, ho2, hb⟩
    have B2 := hid (below_tr B1.out hb)
    obtain ⟨a2, c2, rfl, hp2, _⟩ := ho2.at_
    have P2 : Hid (PgIn w2 a2 Z) := ⟨hp2, by omega, HTP.out⟩
    have B3 := hid (below_tr B2.out (bx w2 (.cells #[.slice a2 Z.length c2] 24)))
    have P3 := hid (P2.out.below (bx w2 (.cells #[.slice a2 Z.length c2] 24)))
    have Q3 := hid (Below.refl (w2.alloc (.cells #[.slice a2 Z.length c2] 24)).heap.size (w2.alloc (.cells #[.slice a2 Z.length c2] 24)))
    clear hb ho2 hp2 K1 B1 B2 P2 c0
    go_wp2_with fail
    refine (G1.out _ _ _ P3.out).mono ?_
    rintro r w4 ⟨rfl, hb⟩
    have Q4 := hid hb
    have B4 := hid (below_tr B3.out hb)
    have c0 := box1 B4.out
    have q0 := box1 Q4.out
    clear hb G1 Q3
    go_wp2_with fail
    refine (G2.out _ (H.out.below (below_tr (bx _ _) B4.out))).mono ?_
    rintro r w5 ⟨rfl, hb⟩
    have Q5 := hid (below_tr Q4.out hb)
    have B5 := hid (below_tr B4.out hb)
    have c0 := box1 B5.out
    have q0 := box1 Q5.out
    clear hb G2 Q4 B4
    go_wp2_with fail
    refine (D1.out _ _ _ (P3.out.below Q5.out)).mono ?_
    rintro r w6 ⟨v6, rfl, ho6, hb⟩
    obtain ⟨a6, c6, rfl, hp6, _⟩ := ho6.at_
    have Q6 := hid (below_tr (below_tr Q5.out hb) (bx w6 (.cells #[.slice a6 X.length c6] 24)))
    have B6 := hid (below_tr (below_tr B5.out hb) (bx w6 (.cells #[.slice a6 X.length c6] 24)))
    have c0 := box1 B6.out
    have q0 := box1 Q6.out
    have P6 := hid (hp6.below (bx w6 (.cells #[.slice a6 X.length c6] 24)))
    clear hb D1 Q5 B5 hp6 ho6
    go_wp2_with fail
    refine (SM.out _ _ _ P6.out (H.out.below (below_tr (bx _ _) B6.out)).at_).mono ?_
    rintro r w7 ⟨q, rfl, hq, hb⟩
    obtain rfl : q = true := by simpa using hq
    have Q7 := hid (below_tr Q6.out hb)
    have B7 := hid (below_tr B6.out hb)
    have c0 := box1 B7.out
    have q0 := box1 Q7.out
    clear hb SM Q6 B6 P6 hq
    go_wp2_with fail
    refine (G3.out _ (H.out.below (below_tr (bx _ _) B7.out))).mono ?_
    rintro r w8 ⟨rfl, hb⟩
    have Q8 := hid (below_tr Q7.out hb)
    have B8 := hid (below_tr B7.out hb)
    have q0 := box1 Q8.out
    clear hb G3 Q7 B7 c0
    go_wp2_with fail
    refine (G4.out _ _ _ (P3.out.below Q8.out)).mono ?_
    rintro r w9 ⟨rfl, hb⟩
    have B9 := hid (below_tr B8.out hb)
    clear hb G4 Q8 B8
    by_cases hk : k = (F : Int)
    · subst hk
      have j1 : ((F : Int) == (F : Int)) = true := by simp
      go_wp2_with fail
      go_ret
      exact ⟨rfl, below_tr (bx _ _) B9.out⟩
    · have j1 : (k == (F : Int)) = false := by simpa using hk
      rw [HE.out hk]
      generalize Lf.get X k = G at *
      obtain ⟨T, C⟩ := G
      have j2 := str_same (rfl : T = T)
      have j3 : ((C : Int) == (C : Int)) = true := by simp
      go_wp2_with fail
      go_ret
      exact ⟨rfl, below_tr (bx _ _) B9.out⟩
  · have hP : ∃ C : Nat, C ≠ 0 ∧ Lf.put X t = ([], 0, C) := by
      unfold Lf.put
      by_cases hc : Lf.check X = 0
      · exact ⟨8, by omega, by rw [if_pos hc, if_neg (fun e => hz ⟨hc, e⟩)]⟩
      · exact ⟨Lf.check X, hc, by rw [if_neg hc]⟩
    obtain ⟨C, hC, hP⟩ := hP
    rw [hP] at K1
    have hne : ((C : Int) != 0) = true := by simp; omega
    clear hz hP
    go_enter Try.func3, Try.ntmps3
    go_wp2_with fail
    refine (K0.out _).mono ?_
    rintro r w1 ⟨v1, rfl, ho1, hb⟩
    obtain ⟨g1, c1, rfl, _⟩ := ho1.some (by simp)
    have B1 := hid (below_tr hb (bx w1 (.cells #[.slice (some ⟨g1, 0, none⟩) 1 c1] 24)))
    have c0 := box1 B1.out
    clear hb K0 ho1
    go_wp2_with fail
    refine (K1.out _ (H.out.below (below_tr (bx _ _) B1.out))).mono ?_
    rintro r w2 ⟨v2, rfl, ho2, hb⟩
    have B2 := hid (below_tr B1.out hb)
    obtain ⟨a2, c2, rfl, hp2, _⟩ := ho2.at_
    clear hb ho2 hp2 K1 B1 c0
    go_wp2_with fail
    go_ret
    exact ⟨rfl, below_tr (bx _ _) (below_tr B2.out (bx _ _))⟩

end Go.Proofs.Ytiaddijibaclkag.PLeaf
