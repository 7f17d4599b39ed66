/- Both logs side by side: what Open answers of both, what it leaves; how many writes are loose. -/
import Derived.Test.YthfpinjegfgeiaaWalRefOpenC
import Derived.Test.YthfpinjegfgeiaaWalEq
import Derived.Test.YthfpinjegfgeiaaSectDeed
import Derived.Test.YthfpinjegfgeiaaSectDeedsL
namespace Go.Proofs.Ythfpinjegfgeiaa
open Go Go.RowKit
set_option maxRecDepth 100000

/-! ### The plain Open -/
theorem getA_range (s : ByteArray) (h : (getA s).2 = true) : ∃ E : Nat, E ≤ 1000000 ∧ getA s = ((E : Int), true) := by
  unfold getA at *
  split at h
  · rename_i h0
    exact ⟨0, by omega, by rw [if_pos h0]; rfl⟩
  · rename_i h0
    split at h
    · rename_i h1
      refine ⟨(PCode.Nb.getI (s.data.toList.drop 1)).1.toNat, by omega, ?_⟩
      rw [if_neg h0, if_pos h1, Int.toNat_of_nonneg h1.2.1]
      exact Prod.ext rfl h
    · cases h

def lg0 : LG := ⟨0, 0, 0, 0, 0, true⟩
def Fits (D : SD) (a n : Int) : Prop := 0 ≤ a ∧ 2 ≤ n ∧ a + n ≤ (D.n : Int)
def Opens (D : SD) (a n : Int) (x : Int × SD × LG) (L : List ByteArray) : Prop :=
  (¬ Fits D a n ∧ x = (1, D, lg0) ∧ L = []) ∨
  (Fits D a n ∧ D.down = true ∧ x = (13, D, lg0) ∧ L = []) ∨
  (Fits D a n ∧ D.down = false ∧ (getA (D.seen.getD a.toNat ⟨#[]⟩)).2 = false ∧ x = (4, D, lg0) ∧ L = []) ∨
  (Fits D a n ∧ D.down = false ∧ ∃ (E : Nat) (R : List Wl.Rec) (m : List (List UInt8)), getA (D.seen.getD a.toNat ⟨#[]⟩) = ((E : Int), true) ∧ Wl.Chain (E : Int) 0 0 ((lists (secs D a.toNat n.toNat)).drop 1) R m ∧ Wl.Ends (E : Int) (Wl.lastEp 0 R) R.length m ∧ x = wlRaise D (LG.made a.toNat n.toNat E R) ∧ L = txts R)
theorem Opens.det {D : SD} {a n : Int} {x y : Int × SD × LG} {L M : List ByteArray} (h : Opens D a n x L) (k : Opens D a n y M) : y = x ∧ M = L := by
  rcases h with ⟨h1, rfl, rfl⟩ | ⟨h1, h2, rfl, rfl⟩ | ⟨h1, h2, h3, rfl, rfl⟩ | ⟨h1, h2, E, R, m, h3, h4, h5, rfl, rfl⟩ <;>
  rcases k with ⟨k1, rfl, rfl⟩ | ⟨k1, k2, rfl, rfl⟩ | ⟨k1, k2, k3, rfl, rfl⟩ | ⟨k1, k2, E', R', m', k3, k4, k5, rfl, rfl⟩
  case inl.inl => exact ⟨rfl, rfl⟩
  case inr.inl.inr.inl => exact ⟨rfl, rfl⟩
  case inr.inr.inl.inr.inr.inl => exact ⟨rfl, rfl⟩
  case inr.inr.inr.inr.inr.inr =>
    rw [h3] at k3
    injection k3 with k3 _
    have k3 : E = E' := by omega
    subst k3
    obtain ⟨rfl, rfl⟩ := h4.det (by rw [Nat.zero_add]; exact h5) k4 (by rw [Nat.zero_add]; exact k5)
    exact ⟨rfl, rfl⟩
  all_goals exfalso
  all_goals first
    | exact h1 k1
    | exact k1 h1
    | exact absurd (h2.symm.trans k2) (by decide)
    | (rw [k3] at h3; exact Bool.noConfusion h3)
    | (rw [h3] at k3; exact Bool.noConfusion k3)
theorem Opens.loose {D : SD} {a n : Int} {x : Int × SD × LG} {L : List ByteArray} (h : Opens D a n x L) : x.2.1.loose.length ≤ D.loose.length + 1 := by
  rcases h with ⟨_, rfl, _⟩ | ⟨_, _, rfl, _⟩ | ⟨_, _, _, rfl, _⟩ | ⟨_, _, E, R, m, _, _, _, rfl, _⟩
  · simp
  · simp
  · simp
  · exact wlRaise_len _ _
theorem Opens.len {D : SD} {a n : Int} {x : Int × SD × LG} {L : List ByteArray} (h : Opens D a n x L) (hD : D.n ≤ 256) : L.length ≤ 256 := by
  rcases h with ⟨_, _, rfl⟩ | ⟨_, _, _, rfl⟩ | ⟨_, _, _, _, rfl⟩ | ⟨hf, _, E, R, m, _, hc, _, _, rfl⟩
  · simp
  · simp
  · simp
  · obtain ⟨c1, _, c3⟩ := hc.drop
    obtain ⟨f1, f2, f3⟩ := hf
    rw [List.length_drop, lists_len, secs_len (by omega)] at c1
    rw [txts_len]
    omega

/-! ### What the two Opens leave -/
def WOpened (w : World) (p : DP) (x : Int × SD × LG) (L : List ByteArray) (r : Ending) (w' : World) : Prop :=
  (x.1 ≠ 0 → ∃ p' : DP, p'.b = p.b ∧ r = .returned (nilV x.1) ∧ DiskAt w' p' x.2.1 ∧ Goes p.own w w' p'.own) ∧
  (x.1 = 0 → ∃ (p' : DP) (lb : Nat) (v : Value), p'.b = p.b ∧ r = .returned (.tuple #[.pointer (some ⟨lb, 0, none⟩), v, .int .i64 0]) ∧ WalAt w' lb p' x.2.1 x.2.2 ∧
    w'.ownsRow w.heap.size 9 1 v L.length (L.map Value.string) ∧ (∀ k, v.ownBlock = some k → ¬ wown p' lb k) ∧ Goes p.own w w' (wown p' lb) ∧ w.heap.size ≤ lb)
def ROpened (w : World) (rb : Nat) (F : Nat → FR) (x : Int × SD × LG) (L : List ByteArray) (r : Ending) (w' : World) : Prop :=
  (x.1 ≠ 0 → ∃ F', r = .returned (nilV x.1) ∧ RefAt w' rb F' x.2.1 ∧ Goes (rown rb F) w w' (rown rb F')) ∧
  (x.1 = 0 → ∃ (F' : Nat → FR) (lb : Nat) (v : Value), r = .returned (.tuple #[.pointer (some ⟨lb, 0, none⟩), v, .int .i64 0]) ∧ RWalAt w' lb rb F' x.2.1 x.2.2 ∧
    w'.ownsRow w.heap.size 9 1 v L.length (L.map Value.string) ∧ (∀ k, v.ownBlock = some k → ¬ rwown rb F' lb k) ∧ Goes (rown rb F) w w' (rwown rb F' lb) ∧ w.heap.size ≤ lb)

theorem wopened_keep {w w' : World} {p : DP} {D : SD} (h : DiskAt w p D) (hb : Below w.heap.size w w') (c : Int) (hc : c ≠ 0) : WOpened w p (c, D, lg0) [] (.returned (nilV c)) w' :=
  ⟨fun _ => ⟨p, rfl, rfl, h.keep fun k hk => hb.block k (h.own_lt k hk), Goes.below' hb⟩, fun e => absurd e hc⟩
theorem ropened_keep {w w' : World} {rb : Nat} {F : Nat → FR} {D : SD} (h : RefAt w rb F D) (hb : Below w.heap.size w w') (c : Int) (hc : c ≠ 0) : ROpened w rb F (c, D, lg0) [] (.returned (nilV c)) w' :=
  ⟨fun _ => ⟨F, rfl, h.keep fun k hk => hb.block k (h.lt k hk), Goes.below' hb⟩, fun e => absurd e hc⟩

theorem open_any (w : World) (p : DP) (D : SD) (h : DiskAt w p D) (a n : Int) (hn : n ≤ 9223372036854775807) (hf : few D) :
    Calls Try.prog 33 #[.pointer (some ⟨p.b, 0, none⟩), .int .i64 a, .int .i64 n] w fun r w' => ∃ x L, Opens D a n x L ∧ WOpened w p x L r w' := by
  by_cases hfit : Fits D a n
  · obtain ⟨A, rfl⟩ : ∃ A : Nat, a = A := ⟨a.toNat, by have := hfit.1; omega⟩
    obtain ⟨N, rfl⟩ : ∃ N : Nat, n = N := ⟨n.toNat, by have := hfit.2.1; omega⟩
    have h2 : 2 ≤ N := by have := hfit.2.1; omega
    have hAN : A + N ≤ D.n := by have := hfit.2.2; omega
    cases hd : D.down with
    | true =>
      refine (open_down w p D h A N h2 hAN hd).mono ?_
      rintro r w' ⟨rfl, hb⟩
      exact ⟨_, _, .inr (.inl ⟨hfit, hd, rfl, rfl⟩), wopened_keep h hb 13 (by omega)⟩
    | false =>
      cases hA : (getA (D.seen.getD A ⟨#[]⟩)).2 with
      | false =>
        refine (open_form w p D h A N h2 hAN hd hA).mono ?_
        rintro r w' ⟨rfl, hb⟩
        exact ⟨_, _, .inr (.inr (.inl ⟨hfit, hd, hA, rfl, rfl⟩)), wopened_keep h hb 4 (by omega)⟩
      | true =>
        obtain ⟨E, hE, hEA⟩ := getA_range _ hA
        refine (open_ok w p D h A N h2 hAN hd E hE hEA hf).mono ?_
        rintro r w' ⟨R, m, hc, he, hp⟩
        refine ⟨_, _, .inr (.inr (.inr ⟨hfit, hd, E, R, m, hEA, hc, he, rfl, rfl⟩)), hp.1, ?_⟩
        rw [txts_len]
        exact hp.2
  · refine (open_bad w p D h a n hn hfit).mono ?_
    rintro r w' ⟨rfl, rfl⟩
    exact ⟨_, _, .inl ⟨hfit, rfl, rfl⟩, wopened_keep h (Below.refl _ _) 1 (by omega)⟩

theorem ropen_any (w : World) (rb : Nat) (F : Nat → FR) (D : SD) (h : RefAt w rb F D) (a n : Int) (hn : n ≤ 9223372036854775807) (hf : few D) :
    Calls Try.prog 34 #[.pointer (some ⟨rb, 0, none⟩), .int .i64 a, .int .i64 n] w fun r w' => ∃ x L, Opens D a n x L ∧ ROpened w rb F x L r w' := by
  by_cases hfit : Fits D a n
  · obtain ⟨A, rfl⟩ : ∃ A : Nat, a = A := ⟨a.toNat, by have := hfit.1; omega⟩
    obtain ⟨N, rfl⟩ : ∃ N : Nat, n = N := ⟨n.toNat, by have := hfit.2.1; omega⟩
    have h2 : 2 ≤ N := by have := hfit.2.1; omega
    have hAN : A + N ≤ D.n := by have := hfit.2.2; omega
    cases hd : D.down with
    | true =>
      refine (ropen_down w rb F D h A N h2 hAN hd).mono ?_
      rintro r w' ⟨rfl, rfl⟩
      exact ⟨_, _, .inr (.inl ⟨hfit, hd, rfl, rfl⟩), ropened_keep h (Below.refl _ _) 13 (by omega)⟩
    | false =>
      cases hA : (getA (D.seen.getD A ⟨#[]⟩)).2 with
      | false =>
        refine (ropen_form w rb F D h A N h2 hAN hd hA).mono ?_
        rintro r w' ⟨rfl, hb⟩
        exact ⟨_, _, .inr (.inr (.inl ⟨hfit, hd, hA, rfl, rfl⟩)), ropened_keep h hb 4 (by omega)⟩
      | true =>
        obtain ⟨E, hE, hEA⟩ := getA_range _ hA
        refine (ropen_ok w rb F D h A N h2 hAN hd E hE hEA hf).mono ?_
        rintro r w' ⟨R, m, hc, he, hp⟩
        refine ⟨_, _, .inr (.inr (.inr ⟨hfit, hd, E, R, m, hEA, hc, he, rfl, rfl⟩)), hp.1, ?_⟩
        rw [txts_len]
        exact hp.2
  · refine (ropen_bad w rb F D h a n hn hfit).mono ?_
    rintro r w' ⟨rfl, rfl⟩
    exact ⟨_, _, .inl ⟨hfit, rfl, rfl⟩, ropened_keep h (Below.refl _ _) 1 (by omega)⟩

/-! ### Both logs -/
structure WTwo (W : World) (lb : Nat) (p : DP) (kb rb : Nat) (F : Nat → FR) (D : SD) (G : LG) (E : SD) (H : LG) : Prop where
  wal : WalAt W lb p D G
  ref : RWalAt W kb rb F E H
  sep : ∀ k, wown p lb k → ¬ rwown rb F kb k
def wown2 (p : DP) (lb rb : Nat) (F : Nat → FR) (kb : Nat) (k : Nat) : Prop := wown p lb k ∨ rwown rb F kb k

section
variable {W W' : World} {lb kb : Nat} {p : DP} {rb : Nat} {F : Nat → FR} {D E : SD} {G H : LG}
theorem WTwo.lt (h : WTwo W lb p kb rb F D G E H) : ∀ k, wown2 p lb rb F kb k → k < W.heap.size := by
  rintro k (hk | hk)
  · exact h.wal.own_lt k hk
  · exact h.ref.own_lt k hk
theorem WTwo.below (h : WTwo W lb p kb rb F D G E H) (hb : Below W.heap.size W W') : WTwo W' lb p kb rb F D G E H := ⟨h.wal.below hb, h.ref.below hb, h.sep⟩
theorem WTwo.drew (h : WTwo W lb p kb rb F D G E H) : WTwo W.drew lb p kb rb F D G E H := ⟨h.wal.drew, h.ref.drew, h.sep⟩
theorem WTwo.left (h : WTwo W lb p kb rb F D G E H) {p' : DP} {D' : SD} {G' : LG} (hd : WalAt W' lb p' D' G') (g : Goes (wown p lb) W W' (wown p' lb)) : WTwo W' lb p' kb rb F D' G' E H ∧ Goes (wown2 p lb rb F kb) W W' (wown2 p' lb rb F kb) := by
  refine ⟨⟨hd, h.ref.keep fun k hk => g.block k (h.ref.own_lt k hk) (fun e => h.sep k e hk), fun k hk e => ?_⟩, ⟨g.os, g.tape, g.output, g.size, fun k hk hn => g.block k hk (fun e => hn (.inl e)), fun k hk => ?_⟩⟩
  · rcases g.grow k hk with e1 | e1
    · exact h.sep k e1 e
    · have := h.ref.own_lt k e; omega
  · rcases hk with hk | hk
    · rcases g.grow k hk with e1 | e1
      · exact .inl (.inl e1)
      · exact .inr e1
    · exact .inl (.inr hk)
theorem WTwo.right (h : WTwo W lb p kb rb F D G E H) {F' : Nat → FR} {E' : SD} {H' : LG} (hr : RWalAt W' kb rb F' E' H') (g : Goes (rwown rb F kb) W W' (rwown rb F' kb)) : WTwo W' lb p kb rb F' D G E' H' ∧ Goes (wown2 p lb rb F kb) W W' (wown2 p lb rb F' kb) := by
  refine ⟨⟨h.wal.keep fun k hk => g.block k (h.wal.own_lt k hk) (h.sep k hk), hr, fun k hk e => ?_⟩, ⟨g.os, g.tape, g.output, g.size, fun k hk hn => g.block k hk (fun e => hn (.inr e)), fun k hk => ?_⟩⟩
  · rcases g.grow k e with e1 | e1
    · exact h.sep k hk e1
    · have := h.wal.own_lt k hk; omega
  · rcases hk with hk | hk
    · exact .inl (.inl hk)
    · rcases g.grow k hk with e1 | e1
      · exact .inl (.inr e1)
      · exact .inr e1
theorem WTwo.two (h : WTwo W lb p kb rb F D G D G) : Two W p rb F D D := ⟨h.wal.disk, h.ref.ref, fun k hk e => h.sep k (.inl hk) (.inl e)⟩
theorem own2_sub {k : Nat} (h : own2 p rb F k) : wown2 p lb rb F kb k := by
  rcases h with h | h
  · exact .inl (.inl h)
  · exact .inr (.inl h)
/-- A deed to the disks alone. -/
theorem WTwo.disks (h : WTwo W lb p kb rb F D G D G) {p' : DP} {F' : Nat → FR} {D' : SD} (hp : p'.b = p.b) (h2 : Two W' p' rb F' D' D') (hn : D'.n = D.n) (g : Goes (own2 p rb F) W W' (own2 p' rb F')) :
    WTwo W' lb p' kb rb F' D' G D' G ∧ Goes (wown2 p lb rb F kb) W W' (wown2 p' lb rb F' kb) := by
  have hl : ¬ own2 p rb F lb := fun e => by
    rcases e with e | e
    · exact h.wal.far e
    · exact h.sep lb (.inr rfl) (.inl e)
  have hk : ¬ own2 p rb F kb := fun e => by
    rcases e with e | e
    · exact h.sep kb (.inl e) (.inr rfl)
    · exact h.ref.far e
  have ll := h.wal.own_lt lb (.inr rfl)
  have kl := h.ref.own_lt kb (.inr rfl)
  have hl' : ¬ own2 p' rb F' lb := fun e => by
    rcases g.grow lb e with e | e
    · exact hl e
    · omega
  have hk' : ¬ own2 p' rb F' kb := fun e => by
    rcases g.grow kb e with e | e
    · exact hk e
    · omega
  have hne : lb ≠ kb := fun e => h.sep lb (.inr rfl) (.inr e)
  refine ⟨⟨⟨h2.disk, by rw [g.block lb ll hl, hp]; exact h.wal.log, fun e => hl' (.inl e), h.wal.ok⟩, ⟨h2.ref, (g.block kb kl hk).trans h.ref.log, fun e => hk' (.inr e), h.ref.ok, by rw [hn]; exact h.ref.pos⟩, fun k a b => ?_⟩, ⟨g.os, g.tape, g.output, g.size, fun k hk hn => g.block k hk (fun e => hn (own2_sub e)), fun k hk => ?_⟩⟩
  · rcases a with a | rfl
    · rcases b with b | rfl
      · exact h2.sep k a b
      · exact hk' (.inl a)
    · rcases b with b | b
      · exact hl' (.inr b)
      · exact hne b
  · rcases hk with (a | a) | (a | a)
    · exact (g.grow k (.inl a)).imp own2_sub id
    · exact .inl (.inl (.inr a))
    · exact (g.grow k (.inr a)).imp own2_sub id
    · exact .inl (.inr (.inr a))
end

/-- Both have been opened. -/
theorem two_opened {w w1 w2 : World} {p p' : DP} {rb : Nat} {F F' : Nat → FR} {D : SD} {x : Int × SD × LG} {lb kb : Nat} {v : Value} {L : List ByteArray} (h : Two w p rb F D D)
    (h1 : WalAt w1 lb p' x.2.1 x.2.2) (r1 : w1.ownsRow w.heap.size 9 1 v L.length (L.map Value.string)) (g1 : Goes p.own w w1 (wown p' lb))
    (h2 : RWalAt w2 kb rb F' x.2.1 x.2.2) (g2 : Goes (rown rb F) w1 w2 (rwown rb F' kb)) :
    WTwo w2 lb p' kb rb F' x.2.1 x.2.2 x.2.1 x.2.2 ∧ Goes (own2 p rb F) w w2 (wown2 p' lb rb F' kb) ∧ w2.ownsRow w.heap.size 9 1 v L.length (L.map Value.string) := by
  have hr : ∀ k, wown p' lb k → ¬ rown rb F k := fun k hk e => by
    rcases g1.grow k hk with a | a
    · exact h.sep k a e
    · have := h.ref.lt k e; omega
  refine ⟨⟨h1.keep fun k hk => g2.block k (h1.own_lt k hk) (hr k hk), h2, fun k a b => ?_⟩, ⟨g2.os.trans g1.os, g2.tape.trans g1.tape, g2.output.trans g1.output, Nat.le_trans g1.size g2.size, fun k hk hn => (g2.block k (Nat.lt_of_lt_of_le hk g1.size) (fun e => hn (.inr e))).trans (g1.block k hk (fun e => hn (.inl e))), fun k hk => ?_⟩, ?_⟩
  · rcases g2.grow k b with e | e
    · exact hr k a e
    · have := h1.own_lt k a; omega
  · rcases hk with a | a
    · exact (g1.grow k a).imp .inl id
    · rcases g2.grow k a with e | e
      · exact .inl (.inr e)
      · exact .inr (Nat.le_trans g1.size e)
  · exact ownsRow_of_block r1 (fun k hk => g2.block k (r1.lt k hk).2 (fun e => by have := h.ref.lt k e; have := (r1.lt k hk).1; omega))

/-! ### How many writes are loose -/
def slack (G : LG) : Nat := if G.sound then G.used else G.n + 5
theorem slack_heed (G : LG) (e : Int) (h : G.used ≤ G.n) : slack G ≤ slack (G.heed e) := by
  unfold LG.heed
  split
  · exact Nat.le_refl _
  · unfold slack
    simp only
    split <;> simp <;> omega
theorem wAll_len : ∀ (l : List ByteArray) (G : LG) (D : SD) (a : Nat), (wlAll D G a l).2.1.loose.length ≤ D.loose.length + l.length := by
  intro l
  induction l with
  | nil => intro G D a; simp [wlAll]
  | cons s l ih =>
    intro G D a
    have h1 := wlWrite_len D G a s
    rw [wlAll]
    split
    · have h2 := ih (wlWrite D G a s).2.2 (wlWrite D G a s).2.1 (a + 1)
      rw [List.length_cons]
      omega
    · rw [List.length_cons]
      omega
theorem wAll_log : ∀ (l : List ByteArray) (G : LG) (D : SD) (a : Nat), ((wlAll D G a l).1 = 0 → (wlAll D G a l).2.2 = G) ∧ ((wlAll D G a l).1 ≠ 0 → (wlAll D G a l).2.2 = { G with sound := false }) := by
  intro l
  induction l with
  | nil => intro G D a; simp [wlAll]
  | cons s l ih =>
    intro G D a
    rw [wlAll]
    split
    · rename_i h0
      rw [wlWrite_ok h0]
      exact ih G (wlWrite D G a s).2.1 (a + 1)
    · rename_i h0
      refine ⟨fun e => absurd e h0, fun _ => ?_⟩
      show G.heed (D.write ((G.frm : Int) + a) s).1 = _
      unfold LG.heed
      exact if_neg h0
theorem append_slack (D : SD) (G : LG) (t : ByteArray) (i : Nat) (h : D.loose.length ≤ i + slack G) : (wlAppend D G t).2.1.loose.length ≤ i + 1 + slack (wlAppend D G t).2.2 := by
  unfold wlAppend
  split
  · simp only; omega
  · rename_i hs
    split
    · simp only; omega
    · split
      · simp only; omega
      · rename_i hfit
        have h1 := wAll_len (parts G.epoch G.count t) G D G.used
        obtain ⟨l1, l2⟩ := wAll_log (parts G.epoch G.count t) G D G.used
        have hs' : G.sound = true := by simpa using hs
        have hsl : slack G = G.used := by unfold slack; rw [if_pos hs']
        unfold wlMore
        split
        · rename_i h0
          rw [l1 h0]
          unfold slack
          simp only [hs', if_true]
          omega
        · rename_i h0
          rw [l2 h0]
          unfold slack
          simp
          omega
theorem sync_slack (D : SD) (G : LG) (hG : G.ok) (i : Nat) (h : D.loose.length ≤ i + slack G) : (wlSync D G).2.1.loose.length ≤ i + 1 + slack (wlSync D G).2.2 := by
  unfold wlSync
  split
  · have h1 := wlFlush_len D G
    have h2 : slack G ≤ slack (wlFlush D G).2.2 := slack_heed G _ hG.use
    omega
  · simp only; omega
theorem flush_zero {D : SD} (h : D.flush.1 = 0) : D.flush.2.loose = [] := by
  unfold SD.flush at *
  split
  · rename_i h0
    rw [if_pos h0] at h
    simp at h
  · rfl
theorem safe_zero {D : SD} {G : LG} {a : Nat} {s : ByteArray} (h : (wlSafe D G a s).1 = 0) : (wlSafe D G a s).2.1.loose = [] := by
  unfold wlSafe at *
  split
  · rename_i h0
    rw [if_pos h0] at h
    exact flush_zero h
  · rename_i h0
    rw [if_neg h0] at h
    exact absurd h h0
theorem safe_log {D : SD} {G : LG} {a : Nat} {s : ByteArray} (h : (wlSafe D G a s).1 ≠ 0) : (wlSafe D G a s).2.2 = { G with sound := false } := by
  unfold wlSafe at *
  split
  · rename_i h0
    rw [if_pos h0] at h
    show (wlWrite D G a s).2.2.heed (wlWrite D G a s).2.1.flush.1 = _
    rw [wlWrite_ok h0]
    unfold LG.heed
    exact if_neg h
  · rename_i h0
    show G.heed (D.write ((G.frm : Int) + a) s).1 = _
    unfold LG.heed
    exact if_neg h0
theorem reset_slack (D : SD) (G : LG) (t : ByteArray) (hG : G.ok) (i : Nat) (h : D.loose.length ≤ i + slack G) : (wlReset D G t).2.1.loose.length ≤ i + 1 + slack (wlReset D G t).2.2 := by
  unfold wlReset
  split
  · simp only; omega
  · rename_i hs
    split
    · simp only; omega
    · split
      · simp only; omega
      · have hs' : G.sound = true := by simpa using hs
        have hsl : slack G = G.used := by unfold slack; rw [if_pos hs']
        have hu := hG.use
        generalize (parts (G.epoch + 1) 0 t).getD 0 ⟨#[]⟩ = s
        unfold wlReset1
        split
        · have h1 := wlRaise_len D G
          rename_i h0
          obtain ⟨g1, _⟩ := wlRaise_log h0
          rw [g1]
          unfold wlOnly
          split
          · rename_i h2
            simp only
            rw [safe_zero h2]
            simp
          · rename_i h2
            have h3 := wlSafe_len (wlRaise D G).2.1 { G with epoch := G.epoch + 1 } 1 s
            rw [safe_log h2]
            unfold slack
            simp
            omega
        · rename_i h0
          have h1 := wlRaise_len D G
          unfold wlRaise at h0 h1 ⊢
          split
          · simp only; omega
          · rename_i hE
            rw [if_neg hE] at h0 h1
            unfold wlUp at h0 h1 ⊢
            split
            · rename_i h3
              rw [if_pos h3] at h0
              exact absurd rfl h0
            · rename_i h3
              rw [if_neg h3] at h1
              rw [safe_log h3]
              have e5 : slack { G with sound := false } = G.n + 5 := rfl
              rw [e5]
              omega

end Go.Proofs.Ythfpinjegfgeiaa
