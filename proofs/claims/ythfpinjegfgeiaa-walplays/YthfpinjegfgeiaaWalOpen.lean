/- A log on a disk: Open, walked. -/
import Derived.Test.YthfpinjegfgeiaaWalFind
namespace Go.Proofs.Ythfpinjegfgeiaa
open Go Go.RowKit
set_option maxRecDepth 100000

theorem dlen_any (w : World) (p : DP) (d : SD) (h : DiskAt w p d) : Calls Try.prog 28 #[.pointer (some ⟨p.b, 0, none⟩)] w fun e w' => e = .returned (.int .i64 (d.n : Int)) ∧ w' = w := by
  have c1 := h.c1
  clear h
  generalize d.n = n at c1 ⊢
  go_enter Try.func28, Try.ntmps28
  go_wp2_with fail
  go_ret
  exact ⟨rfl, rfl⟩

def nilV (e : Int) : Value := .tuple #[.pointer none, .slice none 0 0, .int .i64 e]

set_option maxHeartbeats 2000000 in
theorem open_bad (w : World) (p : DP) (D : SD) (h : DiskAt w p D) (a n : Int) (hn : n ≤ 9223372036854775807) (hbad : ¬ (0 ≤ a ∧ 2 ≤ n ∧ a + n ≤ D.n)) :
    Calls Try.prog 33 #[.pointer (some ⟨p.b, 0, none⟩), .int .i64 a, .int .i64 n] w fun e w' => e = .returned (nilV 1) ∧ w' = w := by
  have KL := hid (dlen_any w p D h)
  have hsm : (D.n : Int) ≤ 256 := by have := h.ok.small; omega
  clear h
  generalize D.n = N at *
  by_cases h1 : a < 0
  · have h1' : decide (a < 0) = true := by simpa using h1
    clear hbad
    go_enter Try.func33, Try.ntmps33
    go_wp2_with fail
    go_ret3
    exact ⟨rfl, rfl⟩
  · have h1' : decide (a < 0) = false := by simpa using h1
    by_cases h2 : n < 2
    · have h2' : decide (n < 2) = true := by simpa using h2
      clear hbad
      go_enter Try.func33, Try.ntmps33
      go_wp2_with fail
      go_ret3
      exact ⟨rfl, rfl⟩
    · have h2' : decide (n < 2) = false := by simpa using h2
      have h3 : (N : Int) - n < a := by omega
      have h3' : decide ((N : Int) - n < a) = true := by simpa using h3
      clear hbad
      go_enter Try.func33, Try.ntmps33
      go_wp2_with fail
      refine KL.out.mono ?_
      rintro r w1 ⟨rfl, rfl⟩
      go_wp2_with fail
      go_ret3
      exact ⟨rfl, rfl⟩

set_option maxHeartbeats 2000000 in
theorem open_down (w : World) (p : DP) (D : SD) (h : DiskAt w p D) (a n : Nat) (h2 : 2 ≤ n) (hfit : a + n ≤ D.n) (hd : D.down = true) :
    Calls Try.prog 33 #[.pointer (some ⟨p.b, 0, none⟩), .int .i64 (a : Int), .int .i64 (n : Int)] w fun e w' => e = .returned (nilV 13) ∧ Below w.heap.size w w' := by
  have KL := hid (dlen_any w p D h)
  have KR := hid (readSectors_down w p D h a n (by omega) hfit hd)
  have hsm : (D.n : Int) ≤ 256 := by have := h.ok.small; omega
  have q1 : decide ((a : Int) < 0) = false := by simp
  have q2 : decide ((n : Int) < 2) = false := by simp; omega
  have q2' : decide (n < 2) = false := by simp; omega
  have q3 : decide ((D.n : Int) - (n : Int) < (a : Int)) = false := by simp; omega
  have hn : (n : Int) ≤ 256 := by omega
  have ha : (a : Int) ≤ 256 := by omega
  clear h hd
  generalize D.n = N at *
  go_enter Try.func33, Try.ntmps33
  go_wp2_with fail
  refine KL.out.mono ?_
  rintro r w1 ⟨rfl, rfl⟩
  go_wp2_with fail
  refine KR.out.mono ?_
  rintro r w2 ⟨rfl, hb⟩
  have B := hid hb
  clear hb
  go_wp2_with fail
  go_ret3
  exact ⟨rfl, B.out⟩

set_option maxHeartbeats 2000000 in
theorem open_form (w : World) (p : DP) (D : SD) (h : DiskAt w p D) (a n : Nat) (h2 : 2 ≤ n) (hfit : a + n ≤ D.n) (hd : D.down = false) (hA : (getA (D.seen.getD a ⟨#[]⟩)).2 = false) :
    Calls Try.prog 33 #[.pointer (some ⟨p.b, 0, none⟩), .int .i64 (a : Int), .int .i64 (n : Int)] w fun e w' => e = .returned (nilV 4) ∧ Below w.heap.size w w' := by
  have KL := hid (dlen_any w p D h)
  have KR := hid (readSectors_any w p D h a n hfit hd)
  have hs0 := secs_at hfit (by omega : 0 < n)
  rw [Nat.add_zero] at hs0
  have h64 : (D.seen.getD a ⟨#[]⟩).size = 64 := secs_64 h.ok a n _ (List.mem_of_getElem? hs0)
  have KA := hid fun W => getAnchor_any (D.seen.getD a ⟨#[]⟩) W h64
  rw [hA] at KA
  have hsm : (D.n : Int) ≤ 256 := by have := h.ok.small; omega
  have q1 : decide ((a : Int) < 0) = false := by simp
  have q2 : decide ((n : Int) < 2) = false := by simp; omega
  have q2' : decide (n < 2) = false := by simp; omega
  have q3 : decide ((D.n : Int) - (n : Int) < (a : Int)) = false := by simp; omega
  have hn : (n : Int) ≤ 256 := by omega
  have ha : (a : Int) ≤ 256 := by omega
  have hn0 : (0 : Int) < (n : Int) := by omega
  have HS0 := hid hs0
  clear h hd hA h64 hs0
  generalize D.seen.getD a ⟨#[]⟩ = s at *
  generalize (getA s).1 = E at *
  generalize D.n = N at *
  go_enter Try.func33, Try.ntmps33
  go_wp2_with fail
  refine KL.out.mono ?_
  rintro r w1 ⟨rfl, rfl⟩
  go_wp2_with fail
  refine KR.out.mono ?_
  rintro r w2 ⟨g, rfl, htx, hg, hb⟩
  have B := hid hb
  have c0 := htx.cell 0 s HS0.out
  rw [Nat.zero_add] at c0
  clear hb htx
  go_wp2_with fail
  refine (KA.out _).mono ?_
  rintro r w3 ⟨rfl, hb3⟩
  have B3 := hid hb3
  clear hb3
  go_wp2_with fail
  go_ret3
  exact ⟨rfl, below_tr B.out B3.out⟩

theorem owns_mono {w : World} {b b' n : Nat} {v : Value} {xs : List Value} (h : w.ownsRow b 9 1 v n xs) (hb : b' ≤ b) : w.ownsRow b' 9 1 v n xs := by
  refine ⟨h.1, ?_⟩
  rcases h.2 with e | ⟨g, cap, cur, h1, h2, h3⟩
  · exact .inl e
  · exact .inr ⟨g, cap, cur, h1, by omega, h3⟩
theorem goes_own {p : DP} {lb : Nat} {w w' : World} (h : Goes (fun k => k = lb) w w' (fun k => k = lb)) : Goes (wown p lb) w w' (wown p lb) :=
  ⟨h.os, h.tape, h.output, h.size, fun k hk hn => h.block k hk (fun e => hn (.inr e)), fun _ hk => .inl hk⟩

/-- The log that Open makes when it has found the records R. -/
def LG.made (a n E : Nat) (R : List Wl.Rec) : LG := ⟨a, n, E, R.length, 1 + Wl.sizes R, true⟩

/-- What Open leaves where there is an anchor: the records R. -/
def OpenPost (w : World) (p : DP) (D : SD) (a n E : Nat) (R : List Wl.Rec) (r : Ending) (w' : World) : Prop :=
  ((wlRaise D (LG.made a n E R)).1 ≠ 0 → ∃ p' : DP, p'.b = p.b ∧ r = .returned (nilV (wlRaise D (LG.made a n E R)).1) ∧ DiskAt w' p' (wlRaise D (LG.made a n E R)).2.1 ∧ Goes p.own w w' p'.own) ∧
  ((wlRaise D (LG.made a n E R)).1 = 0 → ∃ (p' : DP) (lb : Nat) (v : Value), p'.b = p.b ∧ r = .returned (.tuple #[.pointer (some ⟨lb, 0, none⟩), v, .int .i64 0]) ∧ WalAt w' lb p' (wlRaise D (LG.made a n E R)).2.1 (wlRaise D (LG.made a n E R)).2.2 ∧
    w'.ownsRow w.heap.size 9 1 v R.length ((txts R).map Value.string) ∧ (∀ k, v.ownBlock = some k → ¬ wown p' lb k) ∧ Goes p.own w w' (wown p' lb) ∧ w.heap.size ≤ lb)

set_option maxHeartbeats 4000000 in
theorem open_ok (w : World) (p : DP) (D : SD) (h : DiskAt w p D) (a n : Nat) (h2 : 2 ≤ n) (hfit : a + n ≤ D.n) (hd : D.down = false) (E : Nat) (hE : E ≤ 1000000) (hA : getA (D.seen.getD a ⟨#[]⟩) = ((E : Int), true)) (hf : few D) :
    Calls Try.prog 33 #[.pointer (some ⟨p.b, 0, none⟩), .int .i64 (a : Int), .int .i64 (n : Int)] w fun e w' =>
      ∃ R m, Wl.Chain (E : Int) 0 0 ((lists (secs D a n)).drop 1) R m ∧ Wl.Ends (E : Int) (Wl.lastEp 0 R) R.length m ∧ OpenPost w p D a n E R e w' := by
  have KL := hid (dlen_any w p D h)
  have KR := hid (readSectors_any w p D h a n hfit hd)
  have hs0 := secs_at hfit (by omega : 0 < n)
  rw [Nat.add_zero] at hs0
  have h64 : (D.seen.getD a ⟨#[]⟩).size = 64 := secs_64 h.ok a n _ (List.mem_of_getElem? hs0)
  have KA := hid fun W => getAnchor_any (D.seen.getD a ⟨#[]⟩) W h64
  rw [hA] at KA
  have hsm := h.ok.small
  have hsm' : (D.n : Int) ≤ 256 := by omega
  have q1 : decide ((a : Int) < 0) = false := by simp
  have q2 : decide ((n : Int) < 2) = false := by simp; omega
  have q2' : decide (n < 2) = false := by simp; omega
  have q3 : decide ((D.n : Int) - (n : Int) < (a : Int)) = false := by simp; omega
  have hn : (n : Int) ≤ 256 := by omega
  have ha : (a : Int) ≤ 256 := by omega
  have hn0 : (0 : Int) < (n : Int) := by omega
  have HS0 := hid hs0
  have HSL := hid (secs_len hfit)
  have HS64 := hid (secs_64 h.ok a n)
  have H := hid h
  have HF := hid hf
  clear h hd hA h64 hs0 hf
  generalize D.seen.getD a ⟨#[]⟩ = s at *
  generalize hN : D.n = N at *
  clear hN
  go_enter Try.func33, Try.ntmps33
  go_wp2_with fail
  refine KL.out.mono ?_
  rintro r w1 ⟨rfl, rfl⟩
  go_wp2_with fail
  refine KR.out.mono ?_
  rintro r w2 ⟨g, rfl, htx, hg, hb⟩
  have B2 := hid hb
  have c0 := htx.cell 0 s HS0.out
  rw [Nat.zero_add] at c0
  have TX := hid htx
  clear hb htx
  go_wp2_with fail
  refine (KA.out _).mono ?_
  rintro r w3 ⟨rfl, hb3⟩
  have B3 := hid (below_tr B2.out hb3)
  have TX3 : Hid (TxAt w3 g 0 n (secs D a n)) := TX.out.keep (hb3.block g TX.out.lt)
  clear hb3 c0 TX B2
  go_wp2_with fail
  obtain ⟨W3, hW3⟩ : ∃ W3, W3 = w3.alloc (.cells #[.pointer (some ⟨p.b, 0, none⟩), .int .i64 (a : Int), .int .i64 (n : Int), .int .i64 (E : Int), .int .i64 0, .int .i64 1, .bool true] 90) := ⟨_, rfl⟩
  have B4 : Hid (Below w1.heap.size w1 W3) := by rw [hW3]; exact B3.out.alloc B3.out.size _
  have hlb : W3.heap[w3.heap.size]? = some (.cells (((⟨a, n, E, 0, 1, true⟩ : LG).at_ []).cells p.b) 90 (0, 0)) := by rw [hW3]; exact heap_alloc_new w3 _
  have hlo : w1.heap.size ≤ w3.heap.size := B3.out.size
  have TX4 : Hid (TxAt W3 g 0 (secs D a n).length (secs D a n)) := by rw [HSL.out, hW3]; exact TX3.out.keep (Below.heap_alloc w3 _ g TX3.out.lt)
  have hgl : g < w3.heap.size := TX3.out.lt
  rw [← hW3]
  clear hW3 TX3 B3
  generalize w3.heap.size = lb at *
  have WA : Hid (WalAt W3 lb p D ((⟨a, n, E, 0, 1, true⟩ : LG).at_ [])) := ⟨H.out.keep fun k hk => B4.out.block k (H.out.own_lt k hk), hlb, fun e => by have := H.out.own_lt lb e; omega, ⟨h2, by show a + n ≤ 256; omega, hE, by show 0 < 1 + 0; omega, by show 1 + 0 ≤ n; omega⟩⟩
  have GF : Hid (¬ wown p lb g) := by
    rintro (e | e)
    · have := H.out.own_lt g e; omega
    · omega
  have KF := find_any W3 lb p D ⟨a, n, E, 0, 1, true⟩ WA.out g (secs D a n) TX4.out GF.out HS64.out HSL.out
  rw [HSL.out] at KF
  have KF' := hid KF
  clear KF hlb TX4 GF HS64
  go_wp2_with fail
  refine KF'.out.mono ?_
  rintro r w4 ⟨v, R, m, rfl, hfa, hen⟩
  have FA := hid hfa
  have EN := hid hen
  have KU := hid (raise_any w4 lb p D (LG.made a n E R) hfa.wal HF.out)
  clear hfa hen KF' WA
  go_wp2_with fail
  refine KU.out.mono ?_
  rintro r w5 ⟨p5, hp5, rfl, h5, g5⟩
  have HP := hid hp5
  have H5 := hid h5
  have GO : Hid (Goes p.own w1 w5 (wown p5 lb)) := by
    have ga : Goes (fun k => wown p lb k) w1 w5 (wown p5 lb) := ((Goes.below' B4.out).trans (goes_own FA.out.goes)).trans g5
    refine ⟨ga.os, ga.tape, ga.output, ga.size, fun k hk hn => ga.block k hk (fun e => ?_), fun k hk => ?_⟩
    · rcases e with e | e
      · exact hn e
      · omega
    · rcases ga.grow k hk with (e | e) | e
      · exact .inl e
      · exact .inr (by omega)
      · exact .inr e
  have G5 := hid g5
  clear h5 g5 hp5 KU
  by_cases hc : (wlRaise D (LG.made a n E R)).1 = 0
  · rw [hc]
    have RW : Hid (w5.ownsRow w1.heap.size 9 1 v R.length ((txts R).map Value.string) ∧ ∀ k, v.ownBlock = some k → ¬ wown p5 lb k) := by
      have hrow := FA.out.row
      have hlt := fun k hk => hrow.lt k hk
      have hout : ∀ k, v.ownBlock = some k → ¬ wown p lb k := fun k hk e => by have := FA.out.old k e; have := (hlt k hk).1; omega
      have hrow5 := ownsRow_of_block hrow (fun k hk => G5.out.block k (hlt k hk).2 (hout k hk))
      rw [txts_len] at hrow5
      refine ⟨owns_mono hrow5 B4.out.size, fun k hk e => ?_⟩
      rcases G5.out.grow k e with e | e
      · exact hout k hk e
      · have := (hlt k hk).2; omega
    go_wp2_with fail
    go_ret3
    refine ⟨R, m, FA.out.chain, EN.out, fun h0 => absurd hc h0, fun _ => ⟨p5, lb, v, HP.out, rfl, H5.out, RW.out.1, RW.out.2, GO.out, by omega⟩⟩
  · have hc' : ((wlRaise D (LG.made a n E R)).1 != 0) = true := by simpa using hc
    generalize hX : wlRaise D (LG.made a n E R) = X at *
    go_wp2_with fail
    go_ret3
    refine ⟨R, m, FA.out.chain, EN.out, ?_⟩
    unfold OpenPost
    rw [hX]
    exact ⟨fun _ => ⟨p5, HP.out, rfl, H5.out.disk, ⟨GO.out.os, GO.out.tape, GO.out.output, GO.out.size, GO.out.block, fun k hk => GO.out.grow k (.inl hk)⟩⟩, fun h0 => absurd h0 hc⟩

end Go.Proofs.Ythfpinjegfgeiaa
