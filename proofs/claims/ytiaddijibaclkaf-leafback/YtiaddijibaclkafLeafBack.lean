/- quirkeep.LeafBack, walked: it answers true, and nothing that was there has turned. Conditions: how many slots there are, how long the texts are. -/
import Derived.Test.YtiaddijibaclkafLeafRead
import Derived.Test.YtiaddijibaclkafLeafSame
namespace Go.Proofs.Ytiaddijibaclkaf.PLeaf
open Go Go.RowKit
set_option maxRecDepth 100000

def ab : ByteArray := ⟨#[97, 98]⟩
def abPage : List Lf.Sl := [Lf.none', ⟨true, ab⟩]
def abText : ByteArray := ⟨#[2, 0, 3, 97, 98]⟩
theorem ab_check : Lf.check abPage = 0 := by decide
theorem ab_text : Lf.text abPage = abText := by
  unfold Lf.text
  rw [if_pos ab_check]
  decide
theorem ab_in (W : World) : PgIn (W.alloc (.cells #[.bool false, .string ⟨#[]⟩, .bool true, .string ⟨#[97, 98]⟩] 65)) (some ⟨W.heap.size, 0, none⟩) abPage := by
  refine ⟨fun j x hj => ⟨W.heap.size, 0, rfl, ?_, ?_⟩, by decide, fun x hx => ?_⟩
  · rw [cell_of_row _ _ _ _ _ _ (heap_alloc_new W _)]
    match j, hj with
    | 0, hj => cases hj; rfl
    | 1, hj => cases hj; rfl
  · rw [cell_of_row _ _ _ _ _ _ (heap_alloc_new W _)]
    match j, hj with
    | 0, hj => cases hj; rfl
    | 1, hj => cases hj; rfl
  · simp only [abPage, List.mem_cons, List.not_mem_nil, or_false] at hx
    rcases hx with rfl | rfl
    · show (0 : Nat) ≤ _; omega
    · show (2 : Nat) ≤ _; omega
theorem page_in {W : World} {base : Nat} {a : Option Addr} {c : Nat} {X : List Lf.Sl} (h : OwnPg W base (.slice a X.length c) X) (hc : Lf.check X = 0) : PgIn W a X := by
  obtain ⟨h1, _, _, h4⟩ := Lf.check_ok hc
  refine h.inp (by omega) fun x hx => ?_
  have := Lf.text_le X x hx
  rw [Lf.size_eq] at h4
  omega

/-- What the second half of the law asks for: what is read, and what is written of it. -/
theorem read_cases (s : ByteArray) : (Lf.read s.data.toList = none) ∨ ∃ Y, Lf.read s.data.toList = some Y ∧ Lf.check Y = 0 ∧ Lf.text Y = s := by
  cases h : Lf.read s.data.toList with
  | none => exact .inl rfl
  | some Y =>
    obtain ⟨h1, h2⟩ := Lf.read_only h
    refine .inr ⟨Y, rfl, h2, ?_⟩
    unfold Lf.text
    rw [if_pos h2, h1, Lf.mk_back]

theorem read_text {X : List Lf.Sl} (h : Lf.check X = 0) : Lf.read (Lf.text X).data.toList = some X ∧ (Lf.text X).size ≤ 512 := by
  have e : (Lf.text X).data.toList = Lf.bytes X := by unfold Lf.text; rw [if_pos h]; rfl
  refine ⟨by rw [e]; exact Lf.read_bytes h, ?_⟩
  rw [← Lf.size_list, e]
  exact (Lf.check_ok h).2.2.2

set_option maxHeartbeats 4000000 in
theorem back_walk (w : World) (a : Option Addr) (c : Nat) (X : List Lf.Sl) (s : ByteArray) (h : PgIn w a X) (hs : s.size ≤ 140737488355328) :
    Calls Try.prog 8 #[.agg #[.slice a X.length c], .string s] w fun e w' => e = .returned (.bool true) ∧ Below w.heap.size w w' := by
  have K0 := hid fun W (a' : Option Addr) c' (hW : PgIn W a' abPage) => text_any W a' c' abPage hW
  rw [ab_check, ab_text] at K0
  have K1 := hid fun W (hW : PgIn W a X) => text_any W a c X hW
  have hl := h.len
  have H := hid h
  have KR := hid fun W => read_any s W hs
  have hab := str_same (rfl : abText = abText)
  have hss := str_same (rfl : s = s)
  have e0 : ((0 : Int) == 0) = true := rfl
  clear h
  by_cases hc : Lf.check X = 0
  · obtain ⟨hrt, hsz⟩ := read_text hc
    rw [hc] at K1
    have KT := hid fun W => read_any (Lf.text X) W (by omega)
    rw [hrt] at KT
    have SM := hid fun W a' c' (hW : PgAt W a X) (hW2 : PgAt W a' X) => same_any W a a' c c' X X hW hW2 (by omega) (by omega)
    have hsz' : ¬ (512 : Int) < ((Lf.text X).size : Int) := by omega
    generalize Lf.text X = T at *
    clear hrt hc
    go_enter Try.func8, Try.ntmps8
    go_wp2_with fail
    refine (K0.out _ (some ⟨w.heap.size + 1, 0, none⟩) 2 (by have := ab_in (w.alloc (.cells #[.slice a X.length c] 62)); rw [World.size_alloc] at this; exact this)).mono ?_
    rintro r w1 ⟨rfl, hb⟩
    have B1 := hid (below_tr (bx (w.alloc (.cells #[.slice a X.length c] 62)) _) hb)
    have c0 := box1 B1.out
    clear hb K0
    unfold abText at *
    go_wp2_with fail
    refine (K1.out _ (H.out.below (below_tr (bx _ _) B1.out))).mono ?_
    rintro r w2 ⟨rfl, hb⟩
    have B2 := hid (below_tr B1.out hb)
    clear hb K1 B1 c0
    go_wp2_with fail
    refine (KT.out _).mono ?_
    rintro r w3 ⟨v3, rfl, ho, hb⟩
    have ho' : OwnPg w3 w2.heap.size v3 X := ho
    obtain ⟨a3, c3, rfl, hp3, _⟩ := ho'.at_
    have B3 := hid (below_tr (below_tr B2.out hb) (bx w3 (.cells #[.slice a3 X.length c3] 62)))
    have P3 := hid (hp3.below (bx w3 (.cells #[.slice a3 X.length c3] 62)))
    have c0 := box1 B3.out
    clear hb KT B2 ho ho' hp3
    simp only
    go_wp2_with fail
    refine (SM.out _ _ _ (H.out.below (below_tr (bx _ _) B3.out)).at_ P3.out).mono ?_
    rintro r w4 ⟨q, rfl, hq, hb⟩
    obtain rfl : q = true := by simpa using hq
    have B4 := hid (below_tr B3.out hb)
    clear hb SM B3 c0 hq P3
    go_wp2_with fail
    refine (KR.out _).mono ?_
    rcases read_cases s with hn | ⟨Y, hY, hcY, htY⟩
    · rw [hn]
      rintro r w5 ⟨v5, rfl, ho, hb⟩
      have ho' : OwnPg w5 w4.heap.size v5 [] := ho
      obtain ⟨a5, c5, rfl, hp5, _⟩ := ho'.at_
      have B5 := hid (below_tr (below_tr B4.out hb) (bx w5 (.cells #[.slice a5 0 c5] 62)))
      have K5 := hid (text_any (w5.alloc (.cells #[.slice a5 0 c5] 62)) a5 c5 [] ⟨PgAt.nil _ _, by simp, fun x hx => by simp at hx⟩)
      have BB := hid (Below.refl (w5.alloc (.cells #[.slice a5 0 c5] 62)).heap.size (w5.alloc (.cells #[.slice a5 0 c5] 62)))
      clear hb KR B4 ho ho' hp5 hn
      simp only
      go_wp2_with fail
      refine K5.out.mono ?_
      rintro r w6 ⟨rfl, hb⟩
      have q0 := box1 hb
      have B6 := hid (below_tr B5.out hb)
      clear hb K5 B5
      go_wp2_with fail
      go_ret
      exact ⟨rfl, below_tr (bx _ _) B6.out⟩
    · rw [hY]
      rintro r w5 ⟨v5, rfl, ho, hb⟩
      have ho' : OwnPg w5 w4.heap.size v5 Y := ho
      obtain ⟨a5, c5, rfl, hp5, _⟩ := ho'.at_
      have B5 := hid (below_tr (below_tr B4.out hb) (bx w5 (.cells #[.slice a5 Y.length c5] 62)))
      have K5 := text_any (w5.alloc (.cells #[.slice a5 Y.length c5] 62)) a5 c5 Y ((page_in ho' hcY).below (bx _ _))
      rw [hcY, htY] at K5
      have K5' := hid K5
      clear hb KR B4 ho ho' hp5 hY hcY htY K5
      simp only
      go_wp2_with fail
      refine K5'.out.mono ?_
      rintro r w6 ⟨rfl, hb⟩
      have q0 := box1 hb
      have B6 := hid (below_tr B5.out hb)
      clear hb K5' B5
      go_wp2_with fail
      go_ret
      exact ⟨rfl, below_tr (bx _ _) B6.out⟩
  · have hcl := Lf.check_le X
    generalize Lf.check X = C at *
    generalize Lf.text X = T at *
    have hne : ((C : Int) == 0) = false := by simp; omega
    go_enter Try.func8, Try.ntmps8
    go_wp2_with fail
    refine (K0.out _ (some ⟨w.heap.size + 1, 0, none⟩) 2 (by have := ab_in (w.alloc (.cells #[.slice a X.length c] 62)); rw [World.size_alloc] at this; exact this)).mono ?_
    rintro r w1 ⟨rfl, hb⟩
    have B1 := hid (below_tr (bx (w.alloc (.cells #[.slice a X.length c] 62)) _) hb)
    have c0 := box1 B1.out
    clear hb K0
    unfold abText at *
    go_wp2_with fail
    refine (K1.out _ (H.out.below (below_tr (bx _ _) B1.out))).mono ?_
    rintro r w4 ⟨rfl, hb⟩
    have B4 := hid (below_tr B1.out hb)
    clear hb K1 B1 c0
    go_wp2_with fail
    refine (KR.out _).mono ?_
    rcases read_cases s with hn | ⟨Y, hY, hcY, htY⟩
    · rw [hn]
      rintro r w5 ⟨v5, rfl, ho, hb⟩
      have ho' : OwnPg w5 w4.heap.size v5 [] := ho
      obtain ⟨a5, c5, rfl, hp5, _⟩ := ho'.at_
      have B5 := hid (below_tr (below_tr B4.out hb) (bx w5 (.cells #[.slice a5 0 c5] 62)))
      have K5 := hid (text_any (w5.alloc (.cells #[.slice a5 0 c5] 62)) a5 c5 [] ⟨PgAt.nil _ _, by simp, fun x hx => by simp at hx⟩)
      clear hb KR B4 ho ho' hp5 hn
      simp only
      go_wp2_with fail
      refine K5.out.mono ?_
      rintro r w6 ⟨rfl, hb⟩
      have q0 := box1 hb
      have B6 := hid (below_tr B5.out hb)
      clear hb K5 B5
      go_wp2_with fail
      go_ret
      exact ⟨rfl, below_tr (bx _ _) B6.out⟩
    · rw [hY]
      rintro r w5 ⟨v5, rfl, ho, hb⟩
      have ho' : OwnPg w5 w4.heap.size v5 Y := ho
      obtain ⟨a5, c5, rfl, hp5, _⟩ := ho'.at_
      have B5 := hid (below_tr (below_tr B4.out hb) (bx w5 (.cells #[.slice a5 Y.length c5] 62)))
      have K5 := text_any (w5.alloc (.cells #[.slice a5 Y.length c5] 62)) a5 c5 Y ((page_in ho' hcY).below (bx _ _))
      rw [hcY, htY] at K5
      have K5' := hid K5
      clear hb KR B4 ho ho' hp5 hY hcY htY K5
      simp only
      go_wp2_with fail
      refine K5'.out.mono ?_
      rintro r w6 ⟨rfl, hb⟩
      have q0 := box1 hb
      have B6 := hid (below_tr B5.out hb)
      clear hb K5' B5
      go_wp2_with fail
      go_ret
      exact ⟨rfl, below_tr (bx _ _) B6.out⟩

end Go.Proofs.Ytiaddijibaclkaf.PLeaf
