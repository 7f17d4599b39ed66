/- How it stands between the deeds of WalFalls, as plain lists. No program in it. -/
import Derived.Test.YthfpinjegfgeiafWalBack
namespace Go.Proofs.Ythfpinjegfgeiaf
open Go
set_option maxRecDepth 100000
open Wl (By Rec Chain lastEp sizes getRec ep news recs)

def Told2 (all : List By) (sf : Nat) (tr : Bool) (rs : ByteArray) (l : List By) : Prop := Front all sf l ∨ (tr = true ∧ l = [bl rs])
structure StF (D : SD) (G : LG) (all : List By) (sf : Nat) (tr : Bool) (rs : ByteArray) : Prop where
  frm : G.frm = 2
  n : G.n = 20
  good : G.sound = true → Good D G all sf
  falls : Falls D 2 20 (Told2 all sf tr rs)
  len : D.loose.length ≤ 600
  alen : all.length ≤ 256

theorem loose_few' {D : SD} {G : LG} {all : List By} {sf : Nat} (h : Good D G all sf) : D.loose.length ≤ 256 ∧ all.length ≤ 256 := by
  obtain ⟨R0, m0, T, hg, rfl, _⟩ := h
  have hb := hg.base
  have h1 := hb.room
  have h2 := hb.lens.2.2.1
  have h3 := hb.fit
  have h4 := hb.ok.small
  have h5 := (hb.told hg.txt).2.2.2.2
  refine ⟨by rw [hb.loose, mkL_len]; omega, by rw [List.length_append, List.length_map]; exact h5⟩

theorem StF.of_good {D : SD} {G : LG} {all : List By} {sf : Nat} (h : Good D G all sf) (hf : G.frm = 2) (hn : G.n = 20) (tr : Bool) (rs : ByteArray) : StF D G all sf tr rs := by
  have hfa := h.falls
  rw [hf, hn] at hfa
  obtain ⟨l1, l2⟩ := loose_few' h
  exact ⟨hf, hn, fun _ => h, fun K => (hfa K).mono (fun l hl => .inl hl), by omega, l2⟩

theorem wlAll_len (G : LG) : ∀ (l : List ByteArray) (D : SD) (a : Nat), (wlAll D G a l).2.1.loose.length ≤ D.loose.length + l.length := by
  suffices ∀ (l : List ByteArray) (G : LG) (D : SD) (a : Nat), (wlAll D G a l).2.1.loose.length ≤ D.loose.length + l.length from fun l => this l G
  intro l
  induction l with
  | nil => intro G D a; simp [wlAll]
  | cons s l ih =>
    intro G D a
    have h1 := wlWrite_len D G a s
    rw [wlAll]
    split
    · have h2 := ih (wlWrite D G a s).2.2 (wlWrite D G a s).2.1 (a + 1)
      rw [List.length_cons]
      omega
    · rw [List.length_cons]
      omega
theorem wlAppend_len (D : SD) (G : LG) (t : ByteArray) : (wlAppend D G t).2.1.loose.length ≤ D.loose.length + G.n := by
  unfold wlAppend wlMore
  split
  · simp
  · split
    · simp
    · split
      · simp
      · rename_i h
        have h1 := wlAll_len G (parts G.epoch G.count t) D G.used
        split
        · simp only; omega
        · omega
theorem wlReset_len (D : SD) (G : LG) (t : ByteArray) : (wlReset D G t).2.1.loose.length ≤ D.loose.length + 2 := by
  have h1 := wlRaise_len D G
  unfold wlReset wlReset1 wlOnly
  split
  · simp
  · split
    · simp
    · split
      · simp
      · split
        · have h2 := wlSafe_len (wlRaise D G).2.1 (wlRaise D G).2.2 1 ((parts (G.epoch + 1) 0 t).getD 0 ⟨#[]⟩)
          split
          · simp only; omega
          · omega
        · omega

section
variable {D : SD} {G : LG} {all : List By} {sf : Nat} {tr : Bool} {rs : ByteArray} (h : StF D G all sf tr rs)
include h

theorem StF.append (t : ByteArray) : ((wlAppend D G t).1 = 0 → StF (wlAppend D G t).2.1 (wlAppend D G t).2.2 (all ++ [bl t]) sf tr rs) ∧ ((wlAppend D G t).1 ≠ 0 → StF (wlAppend D G t).2.1 (wlAppend D G t).2.2 all sf tr rs) := by
  by_cases hs : G.sound = true
  · have hg := h.good hs
    have hlen := wlAppend_len D G t
    have hl := (loose_few' hg).1
    obtain ⟨_, f2, f3, hc⟩ := hg.append t
    rcases hc with ⟨c, g, _⟩ | ⟨c, e⟩ | ⟨c, e, _, f⟩
    · exact ⟨fun _ => StF.of_good g (f2.trans h.frm) (f3.trans h.n) tr rs, fun hn => absurd c hn⟩
    · refine ⟨fun h0 => ?_, fun _ => by rw [e]; exact h⟩
      rcases c with c | c <;> (rw [c] at h0; exact absurd h0 (by decide))
    · refine ⟨fun h0 => by rw [c] at h0; exact absurd h0 (by decide), fun _ => ?_⟩
      rw [h.frm, h.n] at f
      refine ⟨f2.trans h.frm, f3.trans h.n, fun hs' => ?_, fun K => (f K).mono (fun l hl => .inl hl), by rw [h.n] at hlen; omega, h.alen⟩
      rw [e] at hs'
      cases hs'
  · have e : wlAppend D G t = (10, D, G) := by unfold wlAppend; rw [if_pos (by simpa using hs)]
    rw [e]
    exact ⟨fun h0 => absurd h0 (by simp), fun _ => h⟩

theorem StF.sync : ((wlSync D G).1 = 0 → StF (wlSync D G).2.1 (wlSync D G).2.2 all all.length tr rs) ∧ ((wlSync D G).1 ≠ 0 → StF (wlSync D G).2.1 (wlSync D G).2.2 all sf tr rs) := by
  by_cases hs : G.sound = true
  · have hg := h.good hs
    rcases hg.sync with ⟨c, e, g⟩ | ⟨c, e, _⟩
    · exact ⟨fun _ => by rw [e]; exact StF.of_good g h.frm h.n tr rs, fun hn => absurd c hn⟩
    · refine ⟨fun h0 => by rw [c] at h0; exact absurd h0 (by decide), fun _ => ?_⟩
      rw [e]
      exact ⟨h.frm, h.n, fun hs' => (by cases hs'), h.falls, h.len, h.alen⟩
  · have e : wlSync D G = (10, D, G) := by unfold wlSync; rw [if_neg hs]
    rw [e]
    exact ⟨fun h0 => absurd h0 (by simp), fun _ => h⟩

theorem StF.reset (t : ByteArray) : ((wlReset D G t).1 = 0 → StF (wlReset D G t).2.1 (wlReset D G t).2.2 [bl t] 1 tr rs) ∧
    (((wlReset D G t).1 = 2 ∨ (wlReset D G t).1 = 8 ∨ (wlReset D G t).1 = 10) → StF (wlReset D G t).2.1 (wlReset D G t).2.2 all sf tr rs) ∧
    ((wlReset D G t).1 = 13 → StF (wlReset D G t).2.1 (wlReset D G t).2.2 all sf true t) ∧
    ((wlReset D G t).1 = 0 ∨ (wlReset D G t).1 = 2 ∨ (wlReset D G t).1 = 8 ∨ (wlReset D G t).1 = 10 ∨ (wlReset D G t).1 = 13) := by
  by_cases hs : G.sound = true
  · have hg := h.good hs
    have hlen := wlReset_len D G t
    have hl := (loose_few' hg).1
    obtain ⟨f2, f3, hc⟩ := hg.reset t
    rcases hc with ⟨c, g⟩ | ⟨c, e⟩ | ⟨c, e, f⟩
    · refine ⟨fun _ => StF.of_good g (f2.trans h.frm) (f3.trans h.n) tr rs, fun h0 => ?_, fun h0 => ?_, .inl c⟩
      · rw [c] at h0; exact absurd h0 (by decide)
      · rw [c] at h0; exact absurd h0 (by decide)
    · refine ⟨fun h0 => ?_, fun _ => by rw [e]; exact h, fun h0 => ?_, ?_⟩
      · rcases c with c | c <;> (rw [c] at h0; exact absurd h0 (by decide))
      · rcases c with c | c <;> (rw [c] at h0; exact absurd h0 (by decide))
      · rcases c with c | c
        · exact .inr (.inl c)
        · exact .inr (.inr (.inl c))
    · refine ⟨fun h0 => ?_, fun h0 => ?_, fun _ => ?_, .inr (.inr (.inr (.inr c)))⟩
      · rw [c] at h0; exact absurd h0 (by decide)
      · rw [c] at h0; exact absurd h0 (by decide)
      · rw [h.frm, h.n] at f
        refine ⟨f2.trans h.frm, f3.trans h.n, fun hs' => ?_, fun K => (f K).mono (fun l hl => ?_), by omega, h.alen⟩
        · rw [e] at hs'; cases hs'
        · rcases hl with hl | hl
          · exact .inl hl
          · exact .inr ⟨rfl, hl⟩
  · have e : wlReset D G t = (10, D, G) := by unfold wlReset; rw [if_pos (by simpa using hs)]
    rw [e]
    refine ⟨fun h0 => absurd h0 (by simp), fun _ => h, fun h0 => absurd h0 (by simp), .inr (.inr (.inr (.inl rfl)))⟩

theorem StF.fuse (k : Int) (hk : k ≤ 9223372036854775807) : StF (D.fuse k) G all sf tr rs :=
  ⟨h.frm, h.n, fun hs => (h.good hs).fuse k hk, h.falls.fuse k, h.len, h.alen⟩

/-- Behind a crash: what lies there. -/
theorem StF.crash (K : List Bool) : ∃ E R m, E ≤ 1000000 ∧ Told (D.crash K) 2 20 E R m ∧ getA ((D.crash K).seen.getD 2 ⟨#[]⟩) = (((E : Nat) : Int), true) ∧ Told2 all sf tr rs (R.map (·.text)) := by
  have hF := h.falls K
  obtain ⟨E, R, m, h1, h2, h3, h4, h5, h6⟩ := hF.log
  exact ⟨E, R, m, h1, ⟨hF.ok, hF.n2, hF.fit, h3, h4, h5⟩, h2, h6⟩
end

/-! ### What the law asks of the texts that are told -/
def fr (a b : List ByteArray) : Bool := decide (a.length ≤ b.length) && decide (a = b.take a.length)
theorem fr_of {a b : List By} (h : a <+: b) : fr (a.map ba) (b.map ba) = true := by
  obtain ⟨c, rfl⟩ := h
  unfold fr
  rw [List.map_append]
  simp

end Go.Proofs.Ythfpinjegfgeiaf
