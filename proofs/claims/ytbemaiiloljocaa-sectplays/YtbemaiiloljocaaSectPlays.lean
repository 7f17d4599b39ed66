/-
  quirlaw.SectPlays: whatever n and whatever is done: the call returns true, and what was handed in is as it was. Conditions: at most 2^47 bytes of deeds (the row's own reach gives it).
-/
import Derived.Test.YtbemaiiloljocaaSectDeed
namespace Go.Proofs.Ytbemaiiloljocaa
open Go Go.RowKit
set_option maxRecDepth 100000

structure Dd where
  kind : Int
  n : Int
  text : ByteArray
  pa : Option Addr
  pl : Nat
  pc : Nat
def DeedsAt (w : World) (da : Option Addr) (X : List Dd) : Prop := X ≠ [] → ∃ db off, da = some ⟨db, off, none⟩ ∧ ∀ j x, X[j]? = some x →
  w.cell? ⟨db, off + j * 4, none⟩ = some (.int .i64 x.kind) ∧ w.cell? ⟨db, off + j * 4 + 1, none⟩ = some (.int .i64 x.n) ∧ w.cell? ⟨db, off + j * 4 + 2, none⟩ = some (.string x.text) ∧ w.cell? ⟨db, off + j * 4 + 3, none⟩ = some (.slice x.pa x.pl x.pc)

theorem len_any (w : World) (p : DP) (d : SD) (h : DiskAt w p d) : Calls Try.prog 27 #[.pointer (some ⟨p.b, 0, none⟩)] w fun e w' => e = .returned (.int .i64 (d.n : Int)) ∧ w' = w := by
  have c1 := h.c1
  clear h
  generalize d.n = n at c1 ⊢
  go_enter Try.func27, Try.ntmps27
  go_wp2_with fail
  go_ret
  exact ⟨rfl, rfl⟩

set_option maxHeartbeats 1000000 in
theorem plays_bad (w : World) (n : Int) (hn : ¬ (1 ≤ n ∧ n ≤ 256)) (v : Value) :
    Calls Try.prog 5 #[.int .i64 n, v] w fun e w' => e = .returned (.bool true) ∧ Below w.heap.size w w' := by
  have H := hid (new_bad w n hn)
  by_cases h1 : n < 1
  · have e1 : decide (n < 1) = true := by simpa using h1
    clear hn h1
    go_enter Try.func5, Try.ntmps5
    go_wp2_with fail
    refine H.out.mono ?_
    rintro r w1 ⟨rfl, rfl⟩
    go_wp2_with fail
    go_ret
    exact ⟨rfl, Below.refl _ _⟩
  · have e1 : decide (n < 1) = false := by simpa using h1
    have e2 : decide (256 < n) = true := by simp; omega
    clear hn h1
    go_enter Try.func5, Try.ntmps5
    go_wp2_with fail
    refine H.out.mono ?_
    rintro r w1 ⟨rfl, rfl⟩
    go_wp2_with fail
    go_ret
    exact ⟨rfl, Below.refl _ _⟩

theorem two_start {w w1 w2 : World} {p : DP} {b : Nat} {F : Nat → FR} {d : SD} (h1 : DiskAt w1 p d) (g1 : Goes (fun _ => False) w w1 p.own) (h2 : RefAt w2 b F d) (g2 : Goes (fun _ => False) w1 w2 (rown b F)) :
    Two w2 p b F d d ∧ Goes (fun _ => False) w w2 (own2 p b F) := by
  have hsep : ∀ k, rown b F k → w1.heap.size ≤ k := fun k hk => by
    rcases g2.grow k hk with e | e
    · cases e
    · exact e
  refine ⟨⟨h1.keep fun k hk => g2.block k (h1.own_lt k hk) (fun e => e), h2, fun k hk e => ?_⟩, ⟨g2.os.trans g1.os, g2.tape.trans g1.tape, g2.output.trans g1.output, Nat.le_trans g1.size g2.size, fun k hk hn => (g2.block k (Nat.lt_of_lt_of_le hk g1.size) hn).trans (g1.block k hk hn), fun k hk => ?_⟩⟩
  · have := h1.own_lt k hk
    have := hsep k e
    omega
  · rcases hk with hk | hk
    · exact g1.grow k hk
    · exact .inr (Nat.le_trans g1.size (hsep k hk))

/-- How it stands ahead of deed number i. -/
structure PlayAt (w wr : World) (pb rb k i : Nat) (p : DP) (F : Nat → FR) (D : SD) : Prop where
  hp : p.b = pb
  two : Two wr p rb F D D
  n : D.n = k
  few : D.loose.length ≤ i
  goes : Goes (fun _ => False) w wr (own2 p rb F)

theorem play_room (i m : Nat) (h : i ≤ m) (X : Nat) (hX : m < X) (h56 : X * 56 ≤ 140737488355328) : ((i + 1) + (i + 1) / 4 + 192) * 72 ≤ 281474976710656 := by omega

/-- Deed number i, in a box of its own. -/
theorem PlayAt.deed {w wr : World} {pb rb k i : Nat} {p : DP} {F : Nat → FR} {D : SD} (h : PlayAt w wr pb rb k i p F D) (hk : 0 < k) (xk xn : Int) (xt : ByteArray) (pa : Option Addr) (pc : Nat) (K : List Bool) (hxn : xn ≤ 9223372036854775807) (hK : KeepAt w pa K) (X : Nat) (hi : i < X) (hX : X * 56 ≤ 140737488355328) :
    Calls Try.prog 29 #[.pointer (some ⟨pb, 0, none⟩), .pointer (some ⟨rb, 0, none⟩), .agg #[.int .i64 xk, .int .i64 xn, .string xt, .slice pa K.length pc]] (wr.alloc (.cells #[.int .i64 xk, .int .i64 xn, .string xt, .slice pa K.length pc] 51)) fun e w' =>
      e = .returned (.bool true) ∧ Hid (∃ p' F' D', PlayAt w w' pb rb k (i + 1) p' F' D') := by
  have B := h.two.box #[.int .i64 xk, .int .i64 xn, .string xt, .slice pa K.length pc]
  have g := h.goes.trans B.2.1
  have hd : Deed1 (wr.alloc (.cells #[.int .i64 xk, .int .i64 xn, .string xt, .slice pa K.length pc] 51)) p rb F D xn pa K := by
    refine ⟨B.1, by rw [h.n]; exact hk, hxn, hK.goes g (fun _ _ _ _ e => e), fun hne kb ko e ho => ?_, play_room _ i h.few X hi hX⟩
    have a1 := hK.lt hne kb ko e
    rcases h.goes.grow kb ho with e | e
    · exact e
    · omega
  have H := deed_any _ p rb F D xn pa K hd xk xt pc
  rw [h.hp] at H
  refine H.mono ?_
  rintro e w' ⟨p', F', hp', rfl, h', g'⟩
  have en := deed_n D h.two.disk.ok xk xn xt K
  exact ⟨rfl, p', F', _, hp'.trans rfl, h', en.1.trans h.n, Nat.le_trans en.2 (Nat.succ_le_succ h.few), g.trans g'⟩

theorem fuse_read (D : SD) (j : Nat) (hj : j < D.n) : (D.fuse (-1)).read j = (D.seen.getD j ⟨#[]⟩, 0) := by
  unfold SD.read
  rw [if_pos ⟨by omega, by show (j : Int) < (D.n : Int); omega⟩, if_neg (by simp [SD.down, SD.fuse])]
  rfl

set_option maxHeartbeats 4000000 in
theorem plays_good (w : World) (k : Nat) (hk1 : 1 ≤ k) (hk2 : k ≤ 256) (da : Option Addr) (dc : Nat) (X : List Dd) (hX : DeedsAt w da X) (hXn : X.length * 56 ≤ 140737488355328) (hXi : ∀ x ∈ X, x.n ≤ 9223372036854775807 ∧ ∃ K, x.pl = List.length K ∧ KeepAt w x.pa K) :
    Calls Try.prog 5 #[.int .i64 (k : Int), .slice da X.length dc] w fun e w' => e = .returned (.bool true) ∧ Below w.heap.size w w' := by
  have H1 := hid (new_any w k ⟨by omega, by omega⟩)
  have HX := hid hX
  have HXi := hid hXi
  have en : ((k : Int).toNat) = k := Int.toNat_natCast k
  rw [en] at H1
  have q1 : decide ((k : Int) < 1) = false := by simp; omega
  have q2 : decide (256 < (k : Int)) = false := by simp; omega
  have q1' : decide (k < 1) = false := by simp; omega
  have q2' : decide (256 < k) = false := by simp; omega
  clear hX hXi en
  go_enter Try.func5, Try.ntmps5
  go_wp2_with fail
  refine H1.out.mono ?_
  rintro r w1 ⟨p, rfl, h1, g1⟩
  have H2 := len_any w1 p _ h1
  rw [show (SD.fresh k).n = k by simp [SD.n, SD.fresh]] at H2
  have H2' := hid H2
  have HD1 := hid h1
  have G1 := hid g1
  clear h1 g1 H2 H1
  go_wp2_with fail
  refine H2'.out.mono ?_
  rintro r w2 ⟨rfl, rfl⟩
  have H3 := hid (ref_new w2 k hk2)
  clear H2'
  go_wp2_with fail
  refine H3.out.mono ?_
  rintro r w3 ⟨b, F, rfl, h3, g3⟩
  have P3 : Hid (PlayAt w w3 p.b b k 0 p F (SD.fresh k)) := by
    have := two_start HD1.out G1.out h3 g3
    exact ⟨rfl, this.1, by simp [SD.n, SD.fresh], by simp [SD.fresh], this.2⟩
  clear H3 h3 g3 HD1 G1
  generalize p.b = pb at *
  go_wp2_with fail
  go_loopw [47] (fun v W => ∃ (i : Nat) (p : DP) (F : Nat → FR) (D : SD), i ≤ X.length ∧ v = .int .i64 i ∧ Hid (PlayAt w W pb b k i p F D)) (fun v _ => X.length - (intOf v).toNat)
  case atStart => exact ⟨0, p, F, SD.fresh k, Nat.zero_le _, rfl, P3⟩
  case round =>
    clear P3 p F
    obtain ⟨i, p, F, D, hi, rfl, hs⟩ := hrel
    by_cases hlt : i < X.length
    · obtain ⟨⟨xk, xn, xt, pa, pl, pc⟩, hx⟩ : ∃ x, X[i]? = some x := ⟨_, List.getElem?_eq_getElem hlt⟩
      obtain ⟨db, off, hda, hdc⟩ := HX.out (by intro e; rw [e] at hlt; simp at hlt)
      subst hda
      obtain ⟨d0, d1, d2, d3⟩ := hdc i _ hx
      have hdl := World.block_lt_of_cell? w _ d0
      have hol := hs.out.goes.below (B := w.heap.size) (Nat.le_refl _) (fun k hk => by cases hk)
      have d0 : wr.cell? ⟨db, off + i * 4, none⟩ = some (.int .i64 xk) := (hol.cell (p := ⟨db, off + i * 4, none⟩) hdl).trans d0
      have d1 : wr.cell? ⟨db, off + i * 4 + 1, none⟩ = some (.int .i64 xn) := (hol.cell (p := ⟨db, off + i * 4 + 1, none⟩) hdl).trans d1
      have d2 : wr.cell? ⟨db, off + i * 4 + 2, none⟩ = some (.string xt) := (hol.cell (p := ⟨db, off + i * 4 + 2, none⟩) hdl).trans d2
      have d3 : wr.cell? ⟨db, off + i * 4 + 3, none⟩ = some (.slice pa pl pc) := (hol.cell (p := ⟨db, off + i * 4 + 3, none⟩) hdl).trans d3
      obtain ⟨hxn, K, hpl, hK⟩ := HXi.out _ (List.mem_of_getElem? hx)
      have hpl : pl = K.length := hpl
      have hxn : xn ≤ 9223372036854775807 := hxn
      have hK : KeepAt w pa K := hK
      subst hpl
      have HDd := hid (hs.out.deed (by omega) xk xn xt pa pc K hxn hK X.length hlt hXn)
      clear hdc hx hol hK hxn hs
      have i0 : (0 : Int) ≤ (i : Int) := by omega
      have i1 : (i : Int) < X.length := by omega
      go_wp2_with fail
      refine HDd.out.mono ?_
      rintro r w4 ⟨rfl, hn⟩
      clear HDd d0 d1 d2 d3
      go_wp2_with fail
      go_roundw
      case rel => exact (by
        obtain ⟨p', F', D', hn⟩ := hn.out
        exact ⟨i + 1, p', F', D', by omega, by go_num, hn⟩)
      case measure => simp [intOf]; omega
    · have j1 : decide ((i : Int) < (X.length : Int)) = false := by simp; omega
      have j2 : decide (i < X.length) = false := by simp; omega
      have HF := fuse_any wr p D hs.out.two.disk (-1) (by omega)
      rw [hs.out.hp] at HF
      have HF' := hid HF
      clear HF
      go_wp2_with fail
      refine HF'.out.mono ?_
      rintro r w4 ⟨rfl, h4, g4⟩
      have T4 := hs.out.two.left h4 g4
      have c0 := T4.1.ref.c0
      have hDk : D.seen.length = k := hs.out.n
      obtain ⟨g, hg, hc, _, _, _⟩ := T4.1.ref.rs.at_ 0 (by omega) (by show 0 < (D.seen.map Value.string).length; rw [List.length_map, hDk]; omega)
      rw [hg, hDk] at c0
      have HC : Hid (∀ j, j < k → w4.cell? ⟨g, j, none⟩ = some (.string (D.seen.getD j ⟨#[]⟩))) := fun j hj => hc j _ (by
        show (D.seen.map Value.string)[j]? = _
        rw [List.getElem?_map, List.getElem?_eq_getElem (by omega)]
        simp [List.getD, List.getElem?_eq_getElem (show j < D.seen.length by omega)])
      have HB : Hid (Below w.heap.size w w4) := (hs.out.goes.trans T4.2).below (Nat.le_refl _) (fun k hk => by cases hk)
      have HRd : Hid (∀ j : Nat, j < k → Calls Try.prog 31 #[.pointer (some ⟨pb, 0, none⟩), .int .i64 (j : Int)] w4 fun e w' => e = .returned (.tuple #[.string (D.seen.getD j ⟨#[]⟩), .int .i64 0]) ∧ w' = w4) := fun j hj => by
        have := read_any w4 p (D.fuse (-1)) h4 j
        rw [hs.out.hp, fuse_read D j (by rw [hs.out.n]; exact hj)] at this
        exact this
      clear T4 hc h4 g4 HF' hDk hs hg
      go_wp2_with fail
      go_loopw [64] (fun v W => ∃ j : Nat, j ≤ k ∧ v = .int .i64 j ∧ W = w4) (fun v _ => k - (intOf v).toNat)
      case atStart => exact ⟨0, Nat.zero_le _, rfl, rfl⟩
      case round =>
        obtain ⟨j, hj, rfl, rfl⟩ := hrel
        by_cases hjk : j < k
        · have hcj := HC.out j hjk
          have HR := hid (HRd.out j hjk)
          generalize D.seen.getD j ⟨#[]⟩ = s at hcj HR
          have j0 : (0 : Int) ≤ (j : Int) := by omega
          have j1 : (j : Int) < k := by omega
          go_wp2_with fail
          refine HR.out.mono ?_
          rintro r w5 ⟨rfl, rfl⟩
          go_wp2_with fail
          go_roundw
          case rel => exact ⟨j + 1, by omega, by go_num, trivial⟩
          case measure => simp [intOf]; omega
        · obtain rfl : j = k := by omega
          clear HRd HC
          go_wp2_with fail
          go_ret
          exact ⟨rfl, HB.out⟩

theorem plays_walk (w : World) (n : Int) (da : Option Addr) (dc : Nat) (X : List Dd) (hX : DeedsAt w da X) (hXn : X.length * 56 ≤ 140737488355328) (hXi : ∀ x ∈ X, x.n ≤ 9223372036854775807 ∧ ∃ K, x.pl = List.length K ∧ KeepAt w x.pa K) :
    Calls Try.prog 5 #[.int .i64 n, .slice da X.length dc] w fun e w' => e = .returned (.bool true) ∧ Below w.heap.size w w' := by
  by_cases hn : 1 ≤ n ∧ n ≤ 256
  · obtain ⟨k, rfl⟩ : ∃ k : Nat, n = k := ⟨n.toNat, by omega⟩
    exact plays_good w k (by omega) (by omega) da dc X hX hXn hXi
  · exact plays_bad w n hn _

end Go.Proofs.Ytbemaiiloljocaa
