/- How both disks and both logs stand ahead of deed number i, and what each call leaves. -/
import Derived.Test.YthfpinjegfgeiaaWalTwo
import Derived.Deep.RegionHeld3
namespace Go.Proofs.Ythfpinjegfgeiaa
open Go Go.RowKit
set_option maxRecDepth 100000

/-! ### Both disks alone -/
structure WDown (w W : World) (pb rb : Nat) (p : DP) (F : Nat → FR) (D : SD) : Prop where
  hp : p.b = pb
  two : Two W p rb F D D
  dry : D.loose = []
  goes : Goes (fun _ => False) w W (own2 p rb F)

theorem wtwo_start {w w1 w2 : World} {p : DP} {b : Nat} {F : Nat → FR} {d : SD} (h1 : DiskAt w1 p d) (g1 : Goes (fun _ => False) w w1 p.own) (h2 : RefAt w2 b F d) (g2 : Goes (fun _ => False) w1 w2 (rown b F)) (h0 : d.loose = []) :
    WDown w w2 p.b b p F d := by
  have hsep : ∀ k, rown b F k → w1.heap.size ≤ k := fun k hk => by
    rcases g2.grow k hk with e | e
    · cases e
    · exact e
  refine ⟨rfl, ⟨h1.keep fun k hk => g2.block k (h1.own_lt k hk) (fun e => e), h2, fun k hk e => ?_⟩, h0, ⟨g2.os.trans g1.os, g2.tape.trans g1.tape, g2.output.trans g1.output, Nat.le_trans g1.size g2.size, fun k hk hn => (g2.block k (Nat.lt_of_lt_of_le hk g1.size) hn).trans (g1.block k hk hn), fun k hk => ?_⟩⟩
  · have := h1.own_lt k hk
    have := hsep k e
    omega
  · rcases hk with hk | hk
    · exact g1.grow k hk
    · exact .inr (Nat.le_trans g1.size (hsep k hk))

/-! ### Both disks and both logs -/
structure WPlay (w W : World) (pb rb i lb kb : Nat) (p : DP) (F : Nat → FR) (D : SD) (G : LG) : Prop where
  hp : p.b = pb
  two : WTwo W lb p kb rb F D G D G
  few : D.loose.length ≤ i + 10 + slack G
  goes : Goes (fun _ => False) w W (wown2 p lb rb F kb)
def WStands (w W : World) (pb rb i lb kb : Nat) : Prop := ∃ p F D G, WPlay w W pb rb i lb kb p F D G

/-- The deed's own box. -/
structure WBox (W : World) (own : Nat → Prop) (xb : Nat) (x0 x1 x2 x3 : Value) : Prop where
  row : W.heap[xb]? = some (.cells #[x0, x1, x2, x3] 51 (0, 0))
  far : ¬ own xb
theorem WBox.c2 {W : World} {own : Nat → Prop} {xb : Nat} {x0 x1 x2 x3 : Value} (h : WBox W own xb x0 x1 x2 x3) : W.cell? ⟨xb, 2, none⟩ = some x2 := by rw [cell_of_row W _ _ _ _ _ h.row]; rfl
theorem WBox.c3 {W : World} {own : Nat → Prop} {xb : Nat} {x0 x1 x2 x3 : Value} (h : WBox W own xb x0 x1 x2 x3) : W.cell? ⟨xb, 3, none⟩ = some x3 := by rw [cell_of_row W _ _ _ _ _ h.row]; rfl
theorem WBox.goes {W W' : World} {own own' : Nat → Prop} {xb : Nat} {x0 x1 x2 x3 : Value} (h : WBox W own xb x0 x1 x2 x3) (g : Goes own W W' own') : WBox W' own' xb x0 x1 x2 x3 := by
  refine ⟨(g.block xb (lt_of_heap h.row) h.far).trans h.row, fun e => ?_⟩
  rcases g.grow xb e with e | e
  · exact h.far e
  · have := lt_of_heap h.row; omega
theorem WBox.less {W : World} {own own' : Nat → Prop} {xb : Nat} {x0 x1 x2 x3 : Value} (h : WBox W own xb x0 x1 x2 x3) (g : ∀ k, own' k → own k) : WBox W own' xb x0 x1 x2 x3 := ⟨h.row, fun e => h.far (g _ e)⟩

section
variable {w W W1 W2 : World} {pb rb i lb kb : Nat} {p : DP} {F : Nat → FR} {D : SD} {G : LG}

theorem WPlay.old (h : WPlay w W pb rb i lb kb p F D G) : Below w.heap.size w W := h.goes.below (Nat.le_refl _) (fun k hk => by cases hk)
theorem WPlay.below (h : WPlay w W pb rb i lb kb p F D G) (hb : Below W.heap.size W W1) : WPlay w W1 pb rb i lb kb p F D G := ⟨h.hp, h.two.below hb, h.few, h.goes.trans (Goes.below' hb)⟩
theorem WPlay.drew (h : WPlay w W pb rb i lb kb p F D G) : WPlay w W.drew pb rb i lb kb p F D G := ⟨h.hp, h.two.drew, h.few, h.goes.drew⟩
theorem WPlay.small (h : WPlay w W pb rb i lb kb p F D G) (X : Nat) (hi : i ≤ X) (hX : X * 56 ≤ 140737488355328) : D.loose.length ≤ 2999999999000 := by
  have h1 := h.few
  have h2 := h.two.wal.ok.use
  have h3 := h.two.wal.ok.fit
  have h4 : slack G ≤ 261 := by unfold slack; split <;> omega
  omega
/-- A deed in its box. -/
theorem WPlay.box (h : WPlay w W pb rb i lb kb p F D G) (x0 x1 x2 x3 : Value) : WPlay w (W.alloc (.cells #[x0, x1, x2, x3] 51)) pb rb i lb kb p F D G ∧ WBox (W.alloc (.cells #[x0, x1, x2, x3] 51)) (wown2 p lb rb F kb) W.heap.size x0 x1 x2 x3 := by
  refine ⟨h.below ((Below.refl _ W).alloc (Nat.le_refl _) _), heap_alloc_new W _, fun e => ?_⟩
  have := h.two.lt _ e
  omega

/-- The program's log has done something, the other one not yet. -/
def WMid (w W : World) (pb rb i lb kb : Nat) (F : Nat → FR) (D : SD) (G : LG) (x : Int × SD × LG) (xb : Nat) (x0 x1 x2 x3 : Value) : Prop :=
  ∃ p, p.b = pb ∧ WTwo W lb p kb rb F x.2.1 x.2.2 D G ∧ Goes (fun _ => False) w W (wown2 p lb rb F kb) ∧ x.2.1.loose.length ≤ i + 1 + 10 + slack x.2.2 ∧ D.loose.length ≤ 2999999999000 ∧ WBox W (wown2 p lb rb F kb) xb x0 x1 x2 x3

theorem WPlay.first (h : WPlay w W pb rb i lb kb p F D G) (hs : D.loose.length ≤ 2999999999000) {xb : Nat} {x0 x1 x2 x3 : Value} (hx : WBox W (wown2 p lb rb F kb) xb x0 x1 x2 x3) {x : Int × SD × LG} (hl : x.2.1.loose.length ≤ i + 1 + 10 + slack x.2.2) {r : Ending} (hw : WPost W lb p x r W1) :
    r = .returned (.int .i64 x.1) ∧ W1.cell? ⟨xb, 2, none⟩ = some x2 ∧ Hid (WMid w W1 pb rb i lb kb F D G x xb x0 x1 x2 x3) := by
  obtain ⟨p', hp', rfl, h1, g1⟩ := hw
  have T := h.two.left h1 g1
  have hx' := hx.goes T.2
  exact ⟨rfl, hx'.c2, p', hp'.trans h.hp, T.1, h.goes.trans T.2, hl, hs, hx'⟩
theorem WMid.second {x : Int × SD × LG} {xb : Nat} {x0 x1 x2 x3 : Value} (h : WTwo W lb p kb rb F x.2.1 x.2.2 D G) (hp : p.b = pb) (hg : Goes (fun _ => False) w W (wown2 p lb rb F kb)) (hl : x.2.1.loose.length ≤ i + 1 + 10 + slack x.2.2) (hx : WBox W (wown2 p lb rb F kb) xb x0 x1 x2 x3) {r : Ending} (hw : RPost W kb rb F x r W1) :
    r = .returned (.int .i64 x.1) ∧ W1.cell? ⟨xb, 2, none⟩ = some x2 ∧ Hid (WStands w W1 pb rb (i + 1) lb kb) := by
  obtain ⟨F', rfl, h1, g1⟩ := hw
  have T := h.right h1 g1
  exact ⟨rfl, (hx.goes T.2).c2, p, F', _, _, hp, T.1, hl, hg.trans T.2⟩

theorem WPlay.append1 (h : WPlay w W pb rb i lb kb p F D G) (hs : D.loose.length ≤ 2999999999000) {xb : Nat} {x0 x1 x2 x3 : Value} (hx : WBox W (wown2 p lb rb F kb) xb x0 x1 x2 x3) (t : ByteArray) :
    Calls Try.prog 36 #[.pointer (some ⟨lb, 0, none⟩), .string t] W fun r W1 => r = .returned (.int .i64 (wlAppend D G t).1) ∧ W1.cell? ⟨xb, 2, none⟩ = some x2 ∧ Hid (WMid w W1 pb rb i lb kb F D G (wlAppend D G t) xb x0 x1 x2 x3) :=
  (append_any W lb p D G h.two.wal t hs).mono fun _ _ hw => h.first hs hx (by have := append_slack D G t (i + 10) (by have := h.few; omega); omega) hw
theorem WPlay.reset1 (h : WPlay w W pb rb i lb kb p F D G) (hs : D.loose.length ≤ 2999999999000) {xb : Nat} {x0 x1 x2 x3 : Value} (hx : WBox W (wown2 p lb rb F kb) xb x0 x1 x2 x3) (t : ByteArray) :
    Calls Try.prog 40 #[.pointer (some ⟨lb, 0, none⟩), .string t] W fun r W1 => r = .returned (.int .i64 (wlReset D G t).1) ∧ W1.cell? ⟨xb, 2, none⟩ = some x2 ∧ Hid (WMid w W1 pb rb i lb kb F D G (wlReset D G t) xb x0 x1 x2 x3) :=
  (reset_any W lb p D G h.two.wal t hs).mono fun _ _ hw => h.first hs hx (by have := reset_slack D G t h.two.wal.ok (i + 10) (by have := h.few; omega); omega) hw
theorem WPlay.sync1 (h : WPlay w W pb rb i lb kb p F D G) (hs : D.loose.length ≤ 2999999999000) {xb : Nat} {x0 x1 x2 x3 : Value} (hx : WBox W (wown2 p lb rb F kb) xb x0 x1 x2 x3) :
    Calls Try.prog 38 #[.pointer (some ⟨lb, 0, none⟩)] W fun r W1 => r = .returned (.int .i64 (wlSync D G).1) ∧ W1.cell? ⟨xb, 2, none⟩ = some x2 ∧ Hid (WMid w W1 pb rb i lb kb F D G (wlSync D G) xb x0 x1 x2 x3) :=
  (sync_any W lb p D G h.two.wal).mono fun _ _ hw => h.first hs hx (by have := sync_slack D G h.two.wal.ok (i + 10) (by have := h.few; omega); omega) hw
theorem append2 {t : ByteArray} {xb : Nat} {x0 x1 x2 x3 : Value} (h : WMid w W pb rb i lb kb F D G (wlAppend D G t) xb x0 x1 x2 x3) :
    Calls Try.prog 37 #[.pointer (some ⟨kb, 0, none⟩), .string t] W fun r W1 => r = .returned (.int .i64 (wlAppend D G t).1) ∧ W1.cell? ⟨xb, 2, none⟩ = some x2 ∧ Hid (WStands w W1 pb rb (i + 1) lb kb) := by
  obtain ⟨p, hp, h2, hg, hl, hs, hx⟩ := h
  exact (rappend_any W kb rb F D G h2.ref t hs).mono fun _ _ hw => WMid.second h2 hp hg hl hx hw
theorem reset2 {t : ByteArray} {xb : Nat} {x0 x1 x2 x3 : Value} (h : WMid w W pb rb i lb kb F D G (wlReset D G t) xb x0 x1 x2 x3) :
    Calls Try.prog 41 #[.pointer (some ⟨kb, 0, none⟩), .string t] W fun r W1 => r = .returned (.int .i64 (wlReset D G t).1) ∧ W1.cell? ⟨xb, 2, none⟩ = some x2 ∧ Hid (WStands w W1 pb rb (i + 1) lb kb) := by
  obtain ⟨p, hp, h2, hg, hl, hs, hx⟩ := h
  exact (rreset_any W kb rb F D G h2.ref t hs).mono fun _ _ hw => WMid.second h2 hp hg hl hx hw
theorem sync2 {xb : Nat} {x0 x1 x2 x3 : Value} (h : WMid w W pb rb i lb kb F D G (wlSync D G) xb x0 x1 x2 x3) :
    Calls Try.prog 39 #[.pointer (some ⟨kb, 0, none⟩)] W fun r W1 => r = .returned (.int .i64 (wlSync D G).1) ∧ W1.cell? ⟨xb, 2, none⟩ = some x2 ∧ Hid (WStands w W1 pb rb (i + 1) lb kb) := by
  obtain ⟨p, hp, h2, hg, hl, hs, hx⟩ := h
  exact (rsync_any W kb rb F D G h2.ref).mono fun _ _ hw => WMid.second h2 hp hg hl hx hw

/-! ### A fall -/
theorem WPlay.downs (h : WPlay w W pb rb i lb kb p F D G) : Goes (fun _ => False) w W (own2 p rb F) := h.goes.same fun _ hk => own2_sub hk
theorem WPlay.kn (h : WPlay w W pb rb i lb kb p F D G) {pa : Option Addr} {K : List Bool} (hK : KeepAt w pa K) : K ≠ [] → ∀ b o, pa = some ⟨b, o, none⟩ → ¬ own2 p rb F b := fun hne b o e ho => by
  have a1 := hK.lt hne b o e
  rcases h.goes.grow b (own2_sub ho) with e | e
  · exact e
  · omega
theorem WPlay.crash1 (h : WPlay w W pb rb i lb kb p F D G) (hs : D.loose.length ≤ 2999999999000) {xb : Nat} {x0 x1 x2 : Value} {pa : Option Addr} {K : List Bool} {pc : Nat} (hK : KeepAt w pa K) (hx : WBox W (wown2 p lb rb F kb) xb x0 x1 x2 (.slice pa K.length pc)) :
    Calls Try.prog 42 #[.pointer (some ⟨pb, 0, none⟩), .slice pa K.length pc] W fun r W1 => r = .returned (.tuple #[]) ∧ W1.cell? ⟨xb, 3, none⟩ = some (.slice pa K.length pc) ∧
      Hid (Calls Try.prog 43 #[.pointer (some ⟨rb, 0, none⟩), .slice pa K.length pc] W1 fun r W2 => r = .returned (.tuple #[]) ∧ Hid (∃ p' F', WDown w W2 pb rb p' F' (D.crash K))) := by
  have K1 : KeepAt W pa K := hK.goes h.goes (fun _ _ _ _ e => e)
  have kn := h.kn hK
  have H := crash_any W p D h.two.wal.disk pa pc K K1 (fun a b c e f => kn a b c e (.inl f)) (by omega)
  rw [h.hp] at H
  refine H.mono ?_
  rintro r W1 ⟨p', hp', rfl, h1, g1⟩
  have T := h.two.two.left h1 g1
  refine ⟨rfl, ((hx.less fun k hk => own2_sub hk).goes T.2).c3, ?_⟩
  refine (ref_crash W1 rb F D T.1.ref h.two.ref.pos pa pc K (K1.goes T.2 kn) (fun a b c e f => kn a b c e (.inr f)) (by omega)).mono ?_
  rintro r W2 ⟨F', rfl, h2, g2⟩
  have T2 := T.1.right h2 g2
  exact ⟨rfl, p', F', hp'.trans rfl, T2.1, by simp [SD.crash], (h.downs.trans T.2).trans T2.2⟩

/-! ### Open -/
def HalfBad (W W1 : World) (p : DP) (D : SD) (a n c : Int) : Prop := ∃ x L, Opens D a n x L ∧ x.1 = c ∧ ∃ p' : DP, p'.b = p.b ∧ DiskAt W1 p' x.2.1 ∧ Goes p.own W W1 p'.own
def HalfOk (W W1 : World) (p : DP) (D : SD) (a n : Int) (lb : Nat) (ra : Option Addr) (rc : Nat) (L : List ByteArray) : Prop :=
  ∃ x p', Opens D a n x L ∧ x.1 = 0 ∧ p'.b = p.b ∧ WalAt W1 lb p' x.2.1 x.2.2 ∧ W1.ownsRow W.heap.size 9 1 (.slice ra L.length rc) L.length (L.map Value.string) ∧ Goes p.own W W1 (wown p' lb)

theorem WDown.open1 (h : WDown w W pb rb p F D) (hD : D.n ≤ 256) (a n : Int) (hn : n ≤ 9223372036854775807) :
    Calls Try.prog 33 #[.pointer (some ⟨pb, 0, none⟩), .int .i64 a, .int .i64 n] W fun r W1 =>
      (∃ c, c ≠ 0 ∧ r = .returned (nilV c) ∧ Hid (HalfBad W W1 p D a n c)) ∨
      (∃ lb ra rc L, L.length ≤ 256 ∧ r = .returned (.tuple #[.pointer (some ⟨lb, 0, none⟩), .slice ra (List.length L) rc, .int .i64 0]) ∧ Hid (HalfOk W W1 p D a n lb ra rc L)) := by
  have H := open_any W p D h.two.disk a n hn (by unfold few; rw [h.dry]; simp)
  rw [h.hp] at H
  refine H.mono ?_
  rintro r W1 ⟨x, L, ho, hw⟩
  by_cases hx : x.1 = 0
  · obtain ⟨p', lb, v, hp', rfl, h1, hr, _, g1, _⟩ := hw.2 hx
    obtain ⟨ra, rc, rfl, _⟩ := SlAt.own' hr
    exact .inr ⟨lb, ra, rc, L, ho.len hD, rfl, x, p', ho, hx, hp', h1, hr, g1⟩
  · obtain ⟨p', hp', rfl, h1, g1⟩ := hw.1 hx
    exact .inl ⟨x.1, hx, rfl, x, L, ho, rfl, p', hp', h1, g1⟩

theorem WDown.bad2 (h : WDown w W pb rb p F D) {a n c : Int} (hn : n ≤ 9223372036854775807) (hc : c ≠ 0) (hb : HalfBad W W1 p D a n c) :
    Calls Try.prog 34 #[.pointer (some ⟨rb, 0, none⟩), .int .i64 a, .int .i64 n] W1 fun r W2 => r = .returned (nilV c) ∧ Hid (Below w.heap.size w W2) := by
  obtain ⟨x, L, ho, rfl, p', hp', h1, g1⟩ := hb
  have T := h.two.left h1 g1
  refine (ropen_any W1 rb F D T.1.ref a n hn (by unfold few; rw [h.dry]; simp)).mono ?_
  rintro r W2 ⟨y, M, ko, hw⟩
  obtain ⟨rfl, rfl⟩ := ho.det ko
  obtain ⟨F', rfl, h2, g2⟩ := hw.1 hc
  have T2 := T.1.right h2 g2
  exact ⟨rfl, ((h.goes.trans T.2).trans T2.2).below (Nat.le_refl _) (fun k hk => by cases hk)⟩

theorem WDown.ok2 (h : WDown w W pb rb p F D) {a n : Int} (hn : n ≤ 9223372036854775807) {lb : Nat} {ra : Option Addr} {rc : Nat} {L : List ByteArray} (hb : HalfOk W W1 p D a n lb ra rc L) (i : Nat) :
    Calls Try.prog 34 #[.pointer (some ⟨rb, 0, none⟩), .int .i64 a, .int .i64 n] W1 fun r W2 => ∃ kb ra' rc', r = .returned (.tuple #[.pointer (some ⟨kb, 0, none⟩), .slice ra' L.length rc', .int .i64 0]) ∧
      Hid (WStands w W2 pb rb i lb kb) ∧ Hid (SlAt W2 ra L ∧ SlAt W2 ra' L) := by
  obtain ⟨x, p', ho, hx, hp', h1, hr, g1⟩ := hb
  have hR : RefAt W1 rb F D := h.two.ref.keep fun k hk => g1.block k (h.two.ref.lt k hk) (fun e => h.two.sep k e hk)
  refine (ropen_any W1 rb F D hR a n hn (by unfold few; rw [h.dry]; simp)).mono ?_
  rintro r W2 ⟨y, M, ko, hw⟩
  obtain ⟨rfl, rfl⟩ := ho.det ko
  obtain ⟨F', kb, v, rfl, h2, hr2, _, g2, _⟩ := hw.2 hx
  obtain ⟨T, g, row⟩ := two_opened h.two h1 hr g1 h2 g2
  obtain ⟨ra', rc', rfl, s2⟩ := SlAt.own' hr2
  obtain ⟨ra1, rc1, e1, s1⟩ := SlAt.own' row
  obtain rfl : ra = ra1 := by injection e1
  refine ⟨kb, ra', rc', rfl, ⟨p', F', _, _, hp'.trans h.hp, T, ?_, h.goes.trans g⟩, s1, s2⟩
  have := ho.loose
  rw [h.dry] at this
  simp only [List.length_nil] at this
  omega

/-! ### A deed to the disks, the rooms -/
theorem WPlay.deed (h : WPlay w W pb rb i lb kb p F D G) (hs : D.loose.length ≤ 2999999999000) (xk xn : Int) (xt : ByteArray) (pa : Option Addr) (pc : Nat) (K : List Bool) (hxn : xn ≤ 9223372036854775807) (hK : KeepAt w pa K) :
    Calls Try.prog 30 #[.pointer (some ⟨pb, 0, none⟩), .pointer (some ⟨rb, 0, none⟩), .agg #[.int .i64 xk, .int .i64 xn, .string xt, .slice pa K.length pc]] W fun e W1 =>
      e = .returned (.bool true) ∧ Hid (WStands w W1 pb rb (i + 1) lb kb) := by
  have hd : Deed1 W p rb F D xn pa K := ⟨h.two.two, h.two.ref.pos, hxn, hK.goes h.goes (fun _ _ _ _ e => e), h.kn hK, by omega⟩
  have H := deed_any W p rb F D xn pa K hd xk xt pc
  rw [h.hp] at H
  refine H.mono ?_
  rintro e W1 ⟨p', F', hp', rfl, h', g'⟩
  have en := deed_n D h.two.wal.disk.ok xk xn xt K
  have T := h.two.disks (hp'.trans h.hp.symm) h' en.1 g'
  exact ⟨rfl, p', F', _, G, hp'.trans rfl, T.1, by have := h.few; omega, h.goes.trans T.2⟩

theorem WPlay.room1 (h : WPlay w W pb rb i lb kb p F D G) : Calls Try.prog 44 #[.pointer (some ⟨lb, 0, none⟩)] W fun r W1 => r = .returned (.int .i64 ((G.n : Int) - (G.used : Int))) ∧ Hid (WPlay w W1 pb rb i lb kb p F D G) :=
  (room_any W lb p D G h.two.wal).mono fun _ _ hr => ⟨hr.1, h.below hr.2⟩
theorem WPlay.room2 (h : WPlay w W pb rb i lb kb p F D G) : Calls Try.prog 45 #[.pointer (some ⟨kb, 0, none⟩)] W fun r W1 => r = .returned (.int .i64 ((G.n : Int) - (G.used : Int))) ∧ Hid (WPlay w W1 pb rb i lb kb p F D G) :=
  (rroom_any W kb rb F D G h.two.ref).mono fun _ _ hr => ⟨hr.1, h.below hr.2⟩

/-! ### The end -/
theorem wfuse_read (D : SD) (j : Nat) (hj : j < D.n) : (D.fuse (-1)).read j = (D.seen.getD j ⟨#[]⟩, 0) := by
  unfold SD.read
  rw [if_pos ⟨by omega, by show (j : Int) < (D.n : Int); omega⟩, if_neg (by simp [SD.down, SD.fuse])]
  rfl
theorem WPlay.fuse (h : WPlay w W pb rb i lb kb p F D G) : Calls Try.prog 31 #[.pointer (some ⟨pb, 0, none⟩), .int .i64 (-1)] W fun r W1 => r = .returned (.tuple #[]) ∧
    ∃ (g c k : Nat) (S : List ByteArray), k ≤ 256 ∧ W1.cell? ⟨rb, 0, none⟩ = some (.slice (some ⟨g, 0, none⟩) k c) ∧ Hid (∀ j, j < k → W1.cell? ⟨g, j, none⟩ = some (.string (S.getD j ⟨#[]⟩))) ∧ Hid (Below w.heap.size w W1) ∧
      Hid (∀ j : Nat, j < k → Calls Try.prog 32 #[.pointer (some ⟨pb, 0, none⟩), .int .i64 (j : Int)] W1 fun e w' => e = .returned (.tuple #[.string (S.getD j ⟨#[]⟩), .int .i64 0]) ∧ w' = W1) := by
  have HF := fuse_any W p D h.two.wal.disk (-1) (by omega)
  rw [h.hp] at HF
  refine HF.mono ?_
  rintro r W1 ⟨rfl, h4, g4⟩
  have T4 := h.two.two.left h4 g4
  have c0 := T4.1.ref.c0
  have hpos : 0 < D.seen.length := h.two.ref.pos
  obtain ⟨g, hg, hc, _, _, _⟩ := T4.1.ref.rs.at_ 0 (by omega) (by show 0 < (D.seen.map Value.string).length; rw [List.length_map]; omega)
  rw [hg] at c0
  refine ⟨rfl, g, _, D.seen.length, D.seen, h.two.wal.disk.ok.small, c0, fun j hj => hc j _ ?_, (h.downs.trans T4.2).below (Nat.le_refl _) (fun k hk => by cases hk), fun j hj => ?_⟩
  · show (D.seen.map Value.string)[j]? = _
    rw [List.getElem?_map, List.getElem?_eq_getElem hj]
    simp [List.getD, List.getElem?_eq_getElem hj]
  · have := read_any W1 p (D.fuse (-1)) h4 j
    rw [h.hp, wfuse_read D j hj] at this
    exact this
/-! ### As the walk meets them: each call's contract behind the one ahead of it -/
theorem WStands.room (h : WStands w W pb rb i lb kb) : ∃ z, Hid (Calls Try.prog 44 #[.pointer (some ⟨lb, 0, none⟩)] W fun r W1 => r = .returned (.int .i64 z) ∧
    Hid (Calls Try.prog 45 #[.pointer (some ⟨kb, 0, none⟩)] W1 fun r W2 => r = .returned (.int .i64 z) ∧ Hid (WStands w W2 pb rb i lb kb))) := by
  obtain ⟨p, F, D, G, h⟩ := h
  exact ⟨_, h.room1.mono fun _ _ a => ⟨a.1, a.2.out.room2.mono fun _ _ b => ⟨b.1, p, F, D, G, b.2.out⟩⟩⟩
theorem WStands.append (h : WStands w W pb rb i lb kb) (X : Nat) (hi : i ≤ X) (hX : X * 56 ≤ 140737488355328) (x0 x1 x3 : Value) (t : ByteArray) :
    ∃ c, (W.alloc (.cells #[x0, x1, .string t, x3] 51)).drew.cell? ⟨W.heap.size, 2, none⟩ = some (.string t) ∧
      Hid (Calls Try.prog 36 #[.pointer (some ⟨lb, 0, none⟩), .string t] (W.alloc (.cells #[x0, x1, .string t, x3] 51)).drew fun r W1 => r = .returned (.int .i64 c) ∧ W1.cell? ⟨W.heap.size, 2, none⟩ = some (.string t) ∧
        Hid (Calls Try.prog 37 #[.pointer (some ⟨kb, 0, none⟩), .string t] W1 fun r W2 => r = .returned (.int .i64 c) ∧ W2.cell? ⟨W.heap.size, 2, none⟩ = some (.string t) ∧ Hid (WStands w W2 pb rb (i + 1) lb kb))) := by
  obtain ⟨p, F, D, G, h⟩ := h
  obtain ⟨B, x⟩ := h.box x0 x1 (.string t) x3
  have x' := x.goes (Goes.refl _ _).drew
  exact ⟨_, x'.c2, (B.drew.append1 (h.small X hi hX) x' t).mono fun _ _ a => ⟨a.1, a.2.1, append2 a.2.2.out⟩⟩
theorem WStands.reset (h : WStands w W pb rb i lb kb) (X : Nat) (hi : i ≤ X) (hX : X * 56 ≤ 140737488355328) (x0 x1 x3 : Value) (t : ByteArray) :
    ∃ c, (W.alloc (.cells #[x0, x1, .string t, x3] 51)).drew.cell? ⟨W.heap.size, 2, none⟩ = some (.string t) ∧
      Hid (Calls Try.prog 40 #[.pointer (some ⟨lb, 0, none⟩), .string t] (W.alloc (.cells #[x0, x1, .string t, x3] 51)).drew fun r W1 => r = .returned (.int .i64 c) ∧ W1.cell? ⟨W.heap.size, 2, none⟩ = some (.string t) ∧
        Hid (Calls Try.prog 41 #[.pointer (some ⟨kb, 0, none⟩), .string t] W1 fun r W2 => r = .returned (.int .i64 c) ∧ W2.cell? ⟨W.heap.size, 2, none⟩ = some (.string t) ∧ Hid (WStands w W2 pb rb (i + 1) lb kb))) := by
  obtain ⟨p, F, D, G, h⟩ := h
  obtain ⟨B, x⟩ := h.box x0 x1 (.string t) x3
  have x' := x.goes (Goes.refl _ _).drew
  exact ⟨_, x'.c2, (B.drew.reset1 (h.small X hi hX) x' t).mono fun _ _ a => ⟨a.1, a.2.1, reset2 a.2.2.out⟩⟩
theorem WStands.sync (h : WStands w W pb rb i lb kb) (X : Nat) (hi : i ≤ X) (hX : X * 56 ≤ 140737488355328) (x0 x1 x2 x3 : Value) :
    ∃ c, Hid (Calls Try.prog 38 #[.pointer (some ⟨lb, 0, none⟩)] (W.alloc (.cells #[x0, x1, x2, x3] 51)) fun r W1 => r = .returned (.int .i64 c) ∧
        Hid (Calls Try.prog 39 #[.pointer (some ⟨kb, 0, none⟩)] W1 fun r W2 => r = .returned (.int .i64 c) ∧ Hid (WStands w W2 pb rb (i + 1) lb kb))) := by
  obtain ⟨p, F, D, G, h⟩ := h
  obtain ⟨B, x⟩ := h.box x0 x1 x2 x3
  exact ⟨_, (B.sync1 (h.small X hi hX) x).mono fun _ _ a => ⟨a.1, (sync2 a.2.2.out).mono fun _ _ b => ⟨b.1, b.2.2⟩⟩⟩
theorem WStands.deed (h : WStands w W pb rb i lb kb) (X : Nat) (hi : i ≤ X) (hX : X * 56 ≤ 140737488355328) (xk xn : Int) (xt : ByteArray) (pa : Option Addr) (pc : Nat) (K : List Bool) (hxn : xn ≤ 9223372036854775807) (hK : KeepAt w pa K) :
    Calls Try.prog 30 #[.pointer (some ⟨pb, 0, none⟩), .pointer (some ⟨rb, 0, none⟩), .agg #[.int .i64 xk, .int .i64 xn, .string xt, .slice pa K.length pc]] (W.alloc (.cells #[.int .i64 xk, .int .i64 xn, .string xt, .slice pa K.length pc] 51)) fun e W1 =>
      e = .returned (.bool true) ∧ Hid (WStands w W1 pb rb (i + 1) lb kb) := by
  obtain ⟨p, F, D, G, h⟩ := h
  exact (h.box (.int .i64 xk) (.int .i64 xn) (.string xt) (.slice pa K.length pc)).1.deed (h.small X hi hX) xk xn xt pa pc K hxn hK

/-- Both disks, whatever is on them. -/
def WFell (w W : World) (pb rb : Nat) : Prop := ∃ p F D, WDown w W pb rb p F D
theorem WStands.crash (h : WStands w W pb rb i lb kb) (X : Nat) (hi : i ≤ X) (hX : X * 56 ≤ 140737488355328) (x0 x1 x2 : Value) (pa : Option Addr) (pc : Nat) (K : List Bool) (hK : KeepAt w pa K) :
    Calls Try.prog 42 #[.pointer (some ⟨pb, 0, none⟩), .slice pa K.length pc] (W.alloc (.cells #[x0, x1, x2, .slice pa K.length pc] 51)) fun r W1 => r = .returned (.tuple #[]) ∧ W1.cell? ⟨W.heap.size, 3, none⟩ = some (.slice pa K.length pc) ∧
      Hid (Calls Try.prog 43 #[.pointer (some ⟨rb, 0, none⟩), .slice pa K.length pc] W1 fun r W2 => r = .returned (.tuple #[]) ∧ Hid (WFell w W2 pb rb)) := by
  obtain ⟨p, F, D, G, h⟩ := h
  obtain ⟨B, x⟩ := h.box x0 x1 x2 (.slice pa K.length pc)
  exact (B.crash1 (h.small X hi hX) hK x).mono fun _ _ a => ⟨a.1, a.2.1, a.2.2.out.mono fun _ _ b => ⟨b.1, by obtain ⟨p', F', hd⟩ := b.2.out; exact ⟨p', F', _, hd⟩⟩⟩

theorem nil_equal (W : World) : Calls Try.prog 35 #[.slice none 0 0, .slice none 0 0] W fun e W' => e = .returned (.bool true) ∧ Below W.heap.size W W' :=
  equal_any W none none 0 0 [] [] (fun j t hj => by simp at hj) (fun j t hj => by simp at hj) (by simp) (by simp)

theorem WFell.opens (h : WFell w W pb rb) (a n : Int) (hn : n ≤ 9223372036854775807) (i : Nat) :
    Calls Try.prog 33 #[.pointer (some ⟨pb, 0, none⟩), .int .i64 a, .int .i64 n] W fun r W1 =>
      (∃ c, c ≠ 0 ∧ r = .returned (nilV c) ∧ Hid (Calls Try.prog 34 #[.pointer (some ⟨rb, 0, none⟩), .int .i64 a, .int .i64 n] W1 fun r W2 => r = .returned (nilV c) ∧ Hid (Below w.heap.size w W2))) ∨
      (∃ lb ra rc m, r = .returned (.tuple #[.pointer (some ⟨lb, 0, none⟩), .slice ra m rc, .int .i64 0]) ∧ Hid (Calls Try.prog 34 #[.pointer (some ⟨rb, 0, none⟩), .int .i64 a, .int .i64 n] W1 fun r W2 =>
        ∃ kb ra' rc', r = .returned (.tuple #[.pointer (some ⟨kb, 0, none⟩), .slice ra' m rc', .int .i64 0]) ∧ Hid (Calls Try.prog 35 #[.slice ra m rc, .slice ra' m rc'] W2 fun r W3 => r = .returned (.bool true) ∧ Hid (WStands w W3 pb rb i lb kb)))) := by
  obtain ⟨p, F, D, h⟩ := h
  refine (h.open1 h.two.disk.ok.small a n hn).mono ?_
  rintro r W1 (⟨c, hc, rfl, hb⟩ | ⟨lb, ra, rc, L, hL, rfl, hb⟩)
  · exact .inl ⟨c, hc, rfl, h.bad2 hn hc hb.out⟩
  · refine .inr ⟨lb, ra, rc, L.length, rfl, (h.ok2 hn hb.out i).mono ?_⟩
    rintro r W2 ⟨kb, ra', rc', rfl, hs, hq⟩
    refine ⟨kb, ra', rc', rfl, ?_⟩
    have E := equal_any W2 ra ra' rc rc' L L hq.out.1 hq.out.2 (by omega) (by omega)
    rw [decide_eq_true rfl] at E
    refine E.mono fun _ _ a => ⟨a.1, ?_⟩
    obtain ⟨p', F', D', G', hp⟩ := hs.out
    exact ⟨p', F', D', G', hp.below a.2⟩
end

end Go.Proofs.Ythfpinjegfgeiaa

/-
  quirlaw.WalPlays: whatever n, from, size and whatever is done: the call returns true, and what was handed in is as it was. Conditions: at most 2^47 bytes of deeds (the row's own reach gives it).
-/
namespace Go.Proofs.Ythfpinjegfgeiaa
open Go Go.RowKit
set_option maxRecDepth 100000

set_option maxHeartbeats 1000000 in
theorem wplays_bad (w : World) (n : Int) (hn : ¬ (1 ≤ n ∧ n ≤ 256)) (v1 v2 v3 : Value) :
    Calls Try.prog 6 #[.int .i64 n, v1, v2, v3] w fun e w' => e = .returned (.bool true) ∧ Below w.heap.size w w' := by
  have H := hid (new_bad w n hn)
  by_cases h1 : n < 1
  · have e1 : decide (n < 1) = true := by simpa using h1
    clear hn h1
    go_enter Try.func6, Try.ntmps6
    go_wp2_with fail
    refine H.out.mono ?_
    rintro r w1 ⟨rfl, rfl⟩
    go_wp2_with fail
    go_ret
    exact ⟨rfl, Below.refl _ _⟩
  · have e1 : decide (n < 1) = false := by simpa using h1
    have e2 : decide (256 < n) = true := by simp; omega
    clear hn h1
    go_enter Try.func6, Try.ntmps6
    go_wp2_with fail
    refine H.out.mono ?_
    rintro r w1 ⟨rfl, rfl⟩
    go_wp2_with fail
    go_ret
    exact ⟨rfl, Below.refl _ _⟩

set_option maxHeartbeats 8000000 in
theorem wplays_good (w : World) (k : Nat) (hk1 : 1 ≤ k) (hk2 : k ≤ 256) (fr sz : Int) (hsz : sz ≤ 9223372036854775807) (da : Option Addr) (dc : Nat) (X : List Dd) (hX : DeedsAt w da X) (hXn : X.length * 56 ≤ 140737488355328) (hXi : ∀ x ∈ X, x.n ≤ 9223372036854775807 ∧ ∃ K, x.pl = List.length K ∧ KeepAt w x.pa K) :
    Calls Try.prog 6 #[.int .i64 (k : Int), .int .i64 fr, .int .i64 sz, .slice da X.length dc] w fun e w' => e = .returned (.bool true) ∧ Below w.heap.size w w' := by
  have H1 := hid (new_any w k ⟨by omega, by omega⟩)
  have HX := hid hX
  have HXi := hid hXi
  have en : ((k : Int).toNat) = k := Int.toNat_natCast k
  rw [en] at H1
  clear hX hXi en
  go_enter Try.func6, Try.ntmps6
  go_wp2_with fail
  refine H1.out.mono ?_
  rintro r w1 ⟨p, rfl, h1, g1⟩
  have H3 := hid (ref_new w1 k hk2)
  have HD1 := hid h1
  have G1 := hid g1
  clear h1 g1 H1
  go_wp2_with fail
  refine H3.out.mono ?_
  rintro r w3 ⟨b, F, rfl, h3, g3⟩
  have P3 : Hid (WFell w w3 p.b b) := ⟨p, F, _, wtwo_start HD1.out G1.out h3 g3 (by simp [SD.fresh])⟩
  clear H3 h3 g3 HD1 G1
  generalize p.b = pb at *
  have HO := hid fun W (h : WFell w W pb b) i => h.opens fr sz hsz i
  have HO3 := hid (HO.out w3 P3.out 0)
  clear P3
  go_wp2_with fail
  refine HO3.out.mono ?_
  rintro r w4 (⟨c, hc, rfl, H4⟩ | ⟨lb0, ra, rc, m, rfl, H4⟩)
  · clear HO3 HO
    have hc1 : (c == 0) = false := by simpa using hc
    have hc2 : (c != 0) = true := by simpa using hc
    simp only [nilV]
    go_wp2_with fail
    refine H4.out.mono ?_
    rintro r w5 ⟨rfl, H5⟩
    clear H4
    have HE := hid (nil_equal w5)
    simp only [nilV]
    go_wp2_with fail
    refine HE.out.mono ?_
    rintro r w6 ⟨rfl, hb6⟩
    have HB := hid (H5.out.trans (hb6.mono H5.out.size))
    clear HE H5 hb6
    go_wp2_with fail
    go_ret
    exact ⟨rfl, HB.out⟩
  · clear HO3
    go_wp2_with fail
    refine H4.out.mono ?_
    rintro r w5 ⟨kb0, ra', rc', rfl, H5⟩
    clear H4
    go_wp2_with fail
    refine H5.out.mono ?_
    rintro r w6 ⟨rfl, H6⟩
    clear H5
    go_wp2_with fail
    go_loopw [12, 14, 78] (fun lv kv iv W => ∃ (i lb kb : Nat), i ≤ X.length ∧ iv = .int .i64 (i : Int) ∧ lv = .pointer (some ⟨lb, 0, none⟩) ∧ kv = .pointer (some ⟨kb, 0, none⟩) ∧ Hid (WStands w W pb b i lb kb)) (fun _ _ iv _ => X.length - (intOf iv).toNat)
    case atStart => exact ⟨0, lb0, kb0, Nat.zero_le _, rfl, rfl, rfl, H6⟩
    case round =>
      clear H6
      obtain ⟨i, lb, kb, hi, rfl, rfl, rfl, hs⟩ := hrel
      by_cases hlt : i < X.length
      · obtain ⟨⟨xk, xn, xt, pa, pl, pc⟩, hx⟩ : ∃ x, X[i]? = some x := ⟨_, List.getElem?_eq_getElem hlt⟩
        obtain ⟨db, off, hda, hdc⟩ := HX.out (by intro e; rw [e] at hlt; simp at hlt)
        subst hda
        obtain ⟨d0, d1, d2, d3⟩ := hdc i _ hx
        have hdl := World.block_lt_of_cell? w _ d0
        have hol : Below w.heap.size w wr := by obtain ⟨_, _, _, _, h⟩ := hs.out; exact h.old
        have d0 : wr.cell? ⟨db, off + i * 4, none⟩ = some (.int .i64 xk) := (hol.cell (p := ⟨db, off + i * 4, none⟩) hdl).trans d0
        have d1 : wr.cell? ⟨db, off + i * 4 + 1, none⟩ = some (.int .i64 xn) := (hol.cell (p := ⟨db, off + i * 4 + 1, none⟩) hdl).trans d1
        have d2 : wr.cell? ⟨db, off + i * 4 + 2, none⟩ = some (.string xt) := (hol.cell (p := ⟨db, off + i * 4 + 2, none⟩) hdl).trans d2
        have d3 : wr.cell? ⟨db, off + i * 4 + 3, none⟩ = some (.slice pa pl pc) := (hol.cell (p := ⟨db, off + i * 4 + 3, none⟩) hdl).trans d3
        obtain ⟨hxn, K, hpl, hK⟩ := HXi.out _ (List.mem_of_getElem? hx)
        have hpl : pl = K.length := hpl
        have hxn : xn ≤ 9223372036854775807 := hxn
        have hK : KeepAt w pa K := hK
        subst hpl
        have i0' : (0 : Int) ≤ (i : Int) := by omega
        have i1 : (i : Int) < (X.length : Int) := by omega
        have HK := hid hK
        clear hdc hx hol hK
        by_cases k5 : xk = 5
        · subst k5
          obtain ⟨c, y2, HC⟩ := hs.out.append X.length hi hXn (.int .i64 5) (.int .i64 xn) (.slice pa K.length pc) xt
          clear hs HK
          go_wp2_with fail
          go_region_held3 (fun W => W.cell? ⟨wr.heap.size, 2, none⟩ = some (.string xt))
            (first | assumption)
            ((first | (go_at_call 36; refine HC.out.mono ?_; rintro r w4 ⟨rfl, y4, H4⟩; clear HC) | (go_at_call 37; refine H4.out.mono ?_; rintro r w5 ⟨rfl, y5, HS⟩; clear H4)))
          obtain ⟨z, HR⟩ := HS.out.room
          clear HS
          go_wp2_with fail
          refine HR.out.mono ?_
          rintro r w6 ⟨rfl, H6⟩
          clear HR
          go_wp2_with fail
          refine H6.out.mono ?_
          rintro r w7 ⟨rfl, H7⟩
          clear H6
          go_wp2_with fail
          go_roundw
          case rel => exact ⟨i + 1, lb, kb, by omega, by go_num, rfl, rfl, H7⟩
          case measure => simp [intOf]; omega
        have e5 : (xk == 5) = false := by simpa using k5
        by_cases k6 : xk = 6
        · subst k6
          obtain ⟨c, y2, HC⟩ := hs.out.append X.length hi hXn (.int .i64 6) (.int .i64 xn) (.slice pa K.length pc) xt
          clear hs HK
          go_wp2_with fail
          go_region_held3 (fun W => W.cell? ⟨wr.heap.size, 2, none⟩ = some (.string xt))
            (first | assumption)
            ((first | (go_at_call 36; refine HC.out.mono ?_; rintro r w4 ⟨rfl, y4, H4⟩; clear HC) | (go_at_call 37; refine H4.out.mono ?_; rintro r w5 ⟨rfl, y5, HS⟩; clear H4)))
          obtain ⟨z, HR⟩ := HS.out.room
          clear HS
          go_wp2_with fail
          refine HR.out.mono ?_
          rintro r w6 ⟨rfl, H6⟩
          clear HR
          go_wp2_with fail
          refine H6.out.mono ?_
          rintro r w7 ⟨rfl, H7⟩
          clear H6
          go_wp2_with fail
          go_roundw
          case rel => exact ⟨i + 1, lb, kb, by omega, by go_num, rfl, rfl, H7⟩
          case measure => simp [intOf]; omega
        have e6 : (xk == 6) = false := by simpa using k6
        by_cases k7 : xk = 7
        · subst k7
          obtain ⟨c, y2, HC⟩ := hs.out.append X.length hi hXn (.int .i64 7) (.int .i64 xn) (.slice pa K.length pc) xt
          clear hs HK
          go_wp2_with fail
          go_region_held3 (fun W => W.cell? ⟨wr.heap.size, 2, none⟩ = some (.string xt))
            (first | assumption)
            ((first | (go_at_call 36; refine HC.out.mono ?_; rintro r w4 ⟨rfl, y4, H4⟩; clear HC) | (go_at_call 37; refine H4.out.mono ?_; rintro r w5 ⟨rfl, y5, HS⟩; clear H4)))
          obtain ⟨z, HR⟩ := HS.out.room
          clear HS
          go_wp2_with fail
          refine HR.out.mono ?_
          rintro r w6 ⟨rfl, H6⟩
          clear HR
          go_wp2_with fail
          refine H6.out.mono ?_
          rintro r w7 ⟨rfl, H7⟩
          clear H6
          go_wp2_with fail
          go_roundw
          case rel => exact ⟨i + 1, lb, kb, by omega, by go_num, rfl, rfl, H7⟩
          case measure => simp [intOf]; omega
        have e7 : (xk == 7) = false := by simpa using k7
        by_cases k8 : xk = 8
        · subst k8
          obtain ⟨c, HC⟩ := hs.out.sync X.length hi hXn (.int .i64 8) (.int .i64 xn) (.string xt) (.slice pa K.length pc)
          clear hs HK
          go_wp2_with fail
          refine HC.out.mono ?_
          rintro r w4 ⟨rfl, H4⟩
          clear HC
          go_wp2_with fail
          refine H4.out.mono ?_
          rintro r w5 ⟨rfl, HS⟩
          clear H4
          obtain ⟨z, HR⟩ := HS.out.room
          clear HS
          go_wp2_with fail
          refine HR.out.mono ?_
          rintro r w6 ⟨rfl, H6⟩
          clear HR
          go_wp2_with fail
          refine H6.out.mono ?_
          rintro r w7 ⟨rfl, H7⟩
          clear H6
          go_wp2_with fail
          go_roundw
          case rel => exact ⟨i + 1, lb, kb, by omega, by go_num, rfl, rfl, H7⟩
          case measure => simp [intOf]; omega
        have e8 : (xk == 8) = false := by simpa using k8
        by_cases k9 : xk = 9
        · subst k9
          obtain ⟨c, y2, HC⟩ := hs.out.reset X.length hi hXn (.int .i64 9) (.int .i64 xn) (.slice pa K.length pc) xt
          clear hs HK
          go_wp2_with fail
          go_region_held3 (fun W => W.cell? ⟨wr.heap.size, 2, none⟩ = some (.string xt))
            (first | assumption)
            ((first | (go_at_call 40; refine HC.out.mono ?_; rintro r w4 ⟨rfl, y4, H4⟩; clear HC) | (go_at_call 41; refine H4.out.mono ?_; rintro r w5 ⟨rfl, y5, HS⟩; clear H4)))
          obtain ⟨z, HR⟩ := HS.out.room
          clear HS
          go_wp2_with fail
          refine HR.out.mono ?_
          rintro r w6 ⟨rfl, H6⟩
          clear HR
          go_wp2_with fail
          refine H6.out.mono ?_
          rintro r w7 ⟨rfl, H7⟩
          clear H6
          go_wp2_with fail
          go_roundw
          case rel => exact ⟨i + 1, lb, kb, by omega, by go_num, rfl, rfl, H7⟩
          case measure => simp [intOf]; omega
        have e9 : (xk == 9) = false := by simpa using k9
        by_cases k4 : xk = 4
        · subst k4
          have HC := hid (hs.out.crash X.length hi hXn (.int .i64 4) (.int .i64 xn) (.string xt) pa pc K HK.out)
          clear hs HK
          go_wp2_with fail
          refine HC.out.mono ?_
          rintro r w4 ⟨rfl, y3, H4⟩
          clear HC
          go_wp2_with fail
          refine H4.out.mono ?_
          rintro r w5 ⟨rfl, H5⟩
          have HO5 := hid (HO.out w5 H5.out (i + 1))
          clear H4 H5
          go_wp2_with fail
          refine HO5.out.mono ?_
          rintro r w5a (⟨c, hc, rfl, H7⟩ | ⟨lb1, ra1, rc1, m1, rfl, H7⟩)
          · clear HO5
            have hc1 : (c == 0) = false := by simpa using hc
            have hc2 : (c != 0) = true := by simpa using hc
            simp only [nilV]
            go_wp2_with fail
            refine H7.out.mono ?_
            rintro r w5b ⟨rfl, HB⟩
            clear H7
            simp only [nilV]
            go_wp2_with fail
            go_ret
            exact ⟨rfl, HB.out⟩
          · clear HO5
            go_wp2_with fail
            refine H7.out.mono ?_
            rintro r w5b ⟨kb1, ra2, rc2, rfl, H8⟩
            clear H7
            go_wp2_with fail
            refine H8.out.mono ?_
            rintro r w5c ⟨rfl, HS⟩
            clear H8
            obtain ⟨z, HR⟩ := HS.out.room
            clear HS
            go_wp2_with fail
            refine HR.out.mono ?_
            rintro r w6 ⟨rfl, H6⟩
            clear HR
            go_wp2_with fail
            refine H6.out.mono ?_
            rintro r w7 ⟨rfl, H7⟩
            clear H6
            go_wp2_with fail
            go_roundw
            case rel => exact ⟨i + 1, lb1, kb1, by omega, by go_num, rfl, rfl, H7⟩
            case measure => simp [intOf]; omega
        have e4 : (xk == 4) = false := by simpa using k4
        by_cases k10 : xk = 10
        · subst k10
          have HC := hid (hs.out.crash X.length hi hXn (.int .i64 10) (.int .i64 xn) (.string xt) pa pc K HK.out)
          clear hs HK
          go_wp2_with fail
          refine HC.out.mono ?_
          rintro r w4 ⟨rfl, y3, H4⟩
          clear HC
          go_wp2_with fail
          refine H4.out.mono ?_
          rintro r w5 ⟨rfl, H5⟩
          have HO5 := hid (HO.out w5 H5.out (i + 1))
          clear H4 H5
          go_wp2_with fail
          refine HO5.out.mono ?_
          rintro r w5a (⟨c, hc, rfl, H7⟩ | ⟨lb1, ra1, rc1, m1, rfl, H7⟩)
          · clear HO5
            have hc1 : (c == 0) = false := by simpa using hc
            have hc2 : (c != 0) = true := by simpa using hc
            simp only [nilV]
            go_wp2_with fail
            refine H7.out.mono ?_
            rintro r w5b ⟨rfl, HB⟩
            clear H7
            simp only [nilV]
            go_wp2_with fail
            go_ret
            exact ⟨rfl, HB.out⟩
          · clear HO5
            go_wp2_with fail
            refine H7.out.mono ?_
            rintro r w5b ⟨kb1, ra2, rc2, rfl, H8⟩
            clear H7
            go_wp2_with fail
            refine H8.out.mono ?_
            rintro r w5c ⟨rfl, HS⟩
            clear H8
            obtain ⟨z, HR⟩ := HS.out.room
            clear HS
            go_wp2_with fail
            refine HR.out.mono ?_
            rintro r w6 ⟨rfl, H6⟩
            clear HR
            go_wp2_with fail
            refine H6.out.mono ?_
            rintro r w7 ⟨rfl, H7⟩
            clear H6
            go_wp2_with fail
            go_roundw
            case rel => exact ⟨i + 1, lb1, kb1, by omega, by go_num, rfl, rfl, H7⟩
            case measure => simp [intOf]; omega
        have e10 : (xk == 10) = false := by simpa using k10
        have HDd := hid (hs.out.deed X.length hi hXn xk xn xt pa pc K hxn HK.out)
        clear hs HK
        go_wp2_with fail
        refine HDd.out.mono ?_
        rintro r w5 ⟨rfl, HS⟩
        clear HDd d0 d1 d2 d3
        obtain ⟨z, HR⟩ := HS.out.room
        clear HS
        go_wp2_with fail
        refine HR.out.mono ?_
        rintro r w6 ⟨rfl, H6⟩
        clear HR
        go_wp2_with fail
        refine H6.out.mono ?_
        rintro r w7 ⟨rfl, H7⟩
        clear H6
        go_wp2_with fail
        go_roundw
        case rel => exact ⟨i + 1, lb, kb, by omega, by go_num, rfl, rfl, H7⟩
        case measure => simp [intOf]; omega
      · have j1 : decide ((i : Int) < (X.length : Int)) = false := by simp; omega
        have j2 : decide (i < X.length) = false := by simp; omega
        have HF : Hid (∃ p F D G, WPlay w wr pb b i lb kb p F D G) := hs.out
        obtain ⟨p1, F1, D1, G1, hp1⟩ := HF.out
        have HFu := hid hp1.fuse
        clear hp1 HF hs HO
        go_wp2_with fail
        refine HFu.out.mono ?_
        rintro r w4 ⟨rfl, g, c, q, S, hq, c0, HC, HB, HRd⟩
        clear HFu
        go_wp2_with fail
        go_loopw [193] (fun v W => ∃ j : Nat, j ≤ q ∧ v = .int .i64 j ∧ W = w4) (fun v _ => q - (intOf v).toNat)
        case atStart => exact ⟨0, Nat.zero_le _, rfl, rfl⟩
        case round =>
          obtain ⟨j, hj, rfl, rfl⟩ := hrel
          by_cases hjk : j < q
          · have hcj := HC.out j hjk
            have HR := hid (HRd.out j hjk)
            generalize S.getD j ⟨#[]⟩ = s at hcj HR
            have j0 : (0 : Int) ≤ (j : Int) := by omega
            have j1 : (j : Int) < q := by omega
            go_wp2_with fail
            refine HR.out.mono ?_
            rintro r w5 ⟨rfl, rfl⟩
            go_wp2_with fail
            go_roundw
            case rel => exact ⟨j + 1, by omega, by go_num, trivial⟩
            case measure => simp [intOf]; omega
          · obtain rfl : j = q := by omega
            clear HRd HC
            go_wp2_with fail
            go_ret
            exact ⟨rfl, HB.out⟩

theorem wplays_walk (w : World) (n fr sz : Int) (hsz : sz ≤ 9223372036854775807) (da : Option Addr) (dc : Nat) (X : List Dd) (hX : DeedsAt w da X) (hXn : X.length * 56 ≤ 140737488355328) (hXi : ∀ x ∈ X, x.n ≤ 9223372036854775807 ∧ ∃ K, x.pl = List.length K ∧ KeepAt w x.pa K) :
    Calls Try.prog 6 #[.int .i64 n, .int .i64 fr, .int .i64 sz, .slice da X.length dc] w fun e w' => e = .returned (.bool true) ∧ Below w.heap.size w w' := by
  by_cases hn : 1 ≤ n ∧ n ≤ 256
  · obtain ⟨k, rfl⟩ : ∃ k : Nat, n = k := ⟨n.toNat, by omega⟩
    exact wplays_good w k (by omega) (by omega) fr sz hsz da dc X hX hXn hXi
  · exact wplays_bad w n hn _ _ _

end Go.Proofs.Ythfpinjegfgeiaa
