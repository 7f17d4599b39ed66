/- The two disks side by side, and a deed to both: quirlaw.deedOn. -/
import Derived.Test.YthfpinjegfgeiaaSectRefNew
namespace Go.Proofs.Ythfpinjegfgeiaa
open Go Go.RowKit
set_option maxRecDepth 100000

structure Two (W : World) (p : DP) (rb : Nat) (F : Nat → FR) (d e : SD) : Prop where
  disk : DiskAt W p d
  ref : RefAt W rb F e
  sep : ∀ k, p.own k → ¬ rown rb F k
def own2 (p : DP) (rb : Nat) (F : Nat → FR) (k : Nat) : Prop := p.own k ∨ rown rb F k

section
variable {W W' : World} {p : DP} {rb : Nat} {F : Nat → FR} {d e : SD}
theorem Two.lt (h : Two W p rb F d e) : ∀ k, own2 p rb F k → k < W.heap.size := by
  rintro k (hk | hk)
  · exact h.disk.own_lt k hk
  · exact h.ref.lt k hk
theorem Two.keep (h : Two W p rb F d e) (hb : ∀ k, own2 p rb F k → W'.heap[k]? = W.heap[k]?) : Two W' p rb F d e :=
  ⟨h.disk.keep fun k hk => hb k (.inl hk), h.ref.keep fun k hk => hb k (.inr hk), h.sep⟩
theorem Two.drew (h : Two W p rb F d e) : Two W.drew p rb F d e := h.keep fun _ _ => rfl
theorem Two.alloc (h : Two W p rb F d e) (o : Obj) : Two (W.alloc o) p rb F d e := h.keep fun k hk => Below.heap_alloc W o k (h.lt k hk)
theorem Two.left (h : Two W p rb F d e) {p' : DP} {d' : SD} (hd : DiskAt W' p' d') (g : Goes p.own W W' p'.own) : Two W' p' rb F d' e ∧ Goes (own2 p rb F) W W' (own2 p' rb F) := by
  refine ⟨⟨hd, h.ref.keep fun k hk => g.block k (h.ref.lt k hk) (fun e => h.sep k e hk), fun k hk e => ?_⟩, ⟨g.os, g.tape, g.output, g.size, fun k hk hn => g.block k hk (fun e => hn (.inl e)), fun k hk => ?_⟩⟩
  · rcases g.grow k hk with e1 | e1
    · exact h.sep k e1 e
    · have := h.ref.lt k e; omega
  · rcases hk with hk | hk
    · rcases g.grow k hk with e1 | e1
      · exact .inl (.inl e1)
      · exact .inr e1
    · exact .inl (.inr hk)
theorem Two.right (h : Two W p rb F d e) {F' : Nat → FR} {e' : SD} (hr : RefAt W' rb F' e') (g : Goes (rown rb F) W W' (rown rb F')) : Two W' p rb F' d e' ∧ Goes (own2 p rb F) W W' (own2 p rb F') := by
  refine ⟨⟨h.disk.keep fun k hk => g.block k (h.disk.own_lt k hk) (h.sep k hk), hr, fun k hk e => ?_⟩, ⟨g.os, g.tape, g.output, g.size, fun k hk hn => g.block k hk (fun e => hn (.inr e)), fun k hk => ?_⟩⟩
  · rcases g.grow k e with e1 | e1
    · exact h.sep k hk e1
    · have := h.disk.own_lt k hk; omega
  · rcases hk with hk | hk
    · exact .inl (.inl hk)
    · rcases g.grow k hk with e1 | e1
      · exact .inl (.inr e1)
      · exact .inr e1
end

theorem KeepAt.goes {w w' : World} {own own' : Nat → Prop} {ka : Option Addr} {K : List Bool} (h : KeepAt w ka K) (g : Goes own w w' own') (hn : K ≠ [] → ∀ kb ko, ka = some ⟨kb, ko, none⟩ → ¬ own kb) : KeepAt w' ka K := fun hne => by
  obtain ⟨kb, ko, e, hc⟩ := h hne
  exact ⟨kb, ko, e, fun j b hj => (World.cell?_of_block (w := w) (a := ⟨kb, ko + j, none⟩) (g.block kb (h.lt hne kb ko e) (hn hne kb ko e))).trans (hc j b hj)⟩

/-! ### The plain model -/
def SD.deed (d : SD) (k n : Int) (t : ByteArray) (K : List Bool) : SD :=
  if k = 0 then (d.write n t).2 else if k = 1 then d else if k = 2 then d.flush.2 else if k = 3 then d.fuse n else d.crash K
theorem burn_all (d : SD) : d.burn.seen = d.seen ∧ d.burn.safe = d.safe ∧ d.burn.loose = d.loose := by unfold SD.burn; split <;> exact ⟨rfl, rfl, rfl⟩
theorem write_n (d : SD) (a : Int) (t : ByteArray) : (d.write a t).2.n = d.n ∧ (d.write a t).2.loose.length ≤ d.loose.length + 1 := by
  unfold SD.write
  split
  · exact ⟨rfl, by simp⟩
  · split
    · exact ⟨rfl, by simp⟩
    · split
      · exact ⟨rfl, by simp⟩
      · exact ⟨by simp [SD.n, (burn_all d).1], by simp [(burn_all d).2.2]⟩
theorem flush_n (d : SD) : d.flush.2.n = d.n ∧ d.flush.2.loose.length ≤ d.loose.length + 1 := by
  unfold SD.flush
  split
  · exact ⟨rfl, by simp⟩
  · exact ⟨by simp [SD.n, (burn_all d).1], by simp⟩
theorem deed_n (d : SD) (ok : d.ok) (k n : Int) (t : ByteArray) (K : List Bool) : (d.deed k n t K).n = d.n ∧ (d.deed k n t K).loose.length ≤ d.loose.length + 1 := by
  unfold SD.deed
  split
  · exact write_n d n t
  · split
    · exact ⟨rfl, by simp⟩
    · split
      · exact flush_n d
      · split
        · exact ⟨rfl, by simp [SD.fuse]⟩
        · refine ⟨?_, by simp [SD.crash]⟩
          show (after d.loose K d.safe d.loose.length).length = d.n
          rw [after_len, ok.len]

/-- What a deed's call is given. -/
structure Deed1 (w : World) (p : DP) (rb : Nat) (F : Nat → FR) (d : SD) (xn : Int) (pa : Option Addr) (K : List Bool) : Prop where
  two : Two w p rb F d d
  pos : 0 < d.n
  max : xn ≤ 9223372036854775807
  keep : KeepAt w pa K
  kn : K ≠ [] → ∀ kb ko, pa = some ⟨kb, ko, none⟩ → ¬ own2 p rb F kb
  room : ((d.loose.length + 1) + (d.loose.length + 1) / 4 + 192) * 72 ≤ 281474976710656
theorem room16 (m : Nat) (h : ((m + 1) + (m + 1) / 4 + 192) * 72 ≤ 281474976710656) : ((m + 1) + (m + 1) / 4 + 192) * 16 ≤ 281474976710656 ∧ m ≤ 9223372036854775806 := by omega

def dbox (xk xn : Int) (xt : ByteArray) (pa : Option Addr) (pl pc : Nat) : Array Value := #[.int .i64 xk, .int .i64 xn, .string xt, .slice pa pl pc]
/-- Behind the box: all is as it was, and the box stays. -/
theorem Two.box {w : World} {p : DP} {rb : Nat} {F : Nat → FR} {d : SD} (h : Two w p rb F d d) (C : Array Value) :
    Two (w.alloc (.cells C 51)) p rb F d d ∧ Goes (own2 p rb F) w (w.alloc (.cells C 51)) (own2 p rb F) ∧ ¬ own2 p rb F w.heap.size ∧
    (w.alloc (.cells C 51)).heap[w.heap.size]? = some (.cells C 51 (0, 0)) := by
  refine ⟨h.alloc _, (Goes.refl _ w).alloc _, fun e => ?_, heap_alloc_new w _⟩
  have := h.lt _ e
  omega

set_option maxHeartbeats 2000000 in
theorem deed_read (w : World) (p : DP) (rb : Nat) (F : Nat → FR) (d : SD) (xn : Int) (pa : Option Addr) (K : List Bool) (h : Deed1 w p rb F d xn pa K) (xt : ByteArray) (pc : Nat) :
    Calls Try.prog 30 #[.pointer (some ⟨p.b, 0, none⟩), .pointer (some ⟨rb, 0, none⟩), .agg #[.int .i64 1, .int .i64 xn, .string xt, .slice pa K.length pc]] w fun e w' =>
      ∃ p' F', p'.b = p.b ∧ e = .returned (.bool true) ∧ Two w' p' rb F' d d ∧ Goes (own2 p rb F) w w' (own2 p' rb F') := by
  have B := h.two.box #[.int .i64 1, .int .i64 xn, .string xt, .slice pa K.length pc]
  have HA := read_any _ p d B.1.disk xn
  have HR := ref_read _ rb F d B.1.ref xn
  generalize d.read xn = rr at HA HR
  obtain ⟨s, c⟩ := rr
  have HA' := hid HA
  have HR' := hid HR
  have HB := hid B
  clear HA HR h B
  go_enter Try.func30, Try.ntmps30
  go_wp2_with fail
  refine HA'.out.mono ?_
  rintro r w1 ⟨rfl, rfl⟩
  go_wp2_with fail
  refine HR'.out.mono ?_
  rintro r w1 ⟨rfl, rfl⟩
  go_wp2_with fail
  go_ret
  exact ⟨p, F, rfl, rfl, HB.out.1, HB.out.2.1⟩

set_option maxHeartbeats 2000000 in
theorem deed_flush (w : World) (p : DP) (rb : Nat) (F : Nat → FR) (d : SD) (xn : Int) (pa : Option Addr) (K : List Bool) (h : Deed1 w p rb F d xn pa K) (xt : ByteArray) (pc : Nat) :
    Calls Try.prog 30 #[.pointer (some ⟨p.b, 0, none⟩), .pointer (some ⟨rb, 0, none⟩), .agg #[.int .i64 2, .int .i64 xn, .string xt, .slice pa K.length pc]] w fun e w' =>
      ∃ p' F', p'.b = p.b ∧ e = .returned (.bool true) ∧ Two w' p' rb F' d.flush.2 d.flush.2 ∧ Goes (own2 p rb F) w w' (own2 p' rb F') := by
  have B := h.two.box #[.int .i64 2, .int .i64 xn, .string xt, .slice pa K.length pc]
  have HA' := hid (flush_any _ p d B.1.disk)
  have HR' : Hid (∀ w1 p', Two w1 p' rb F d.flush.2 d → _) := fun w1 p' (h1 : Two w1 p' rb F d.flush.2 d) => ref_flush w1 rb F d h1.ref h.pos
  have HB := hid B
  generalize d.flush.1 = c at HA' HR'
  clear h B
  go_enter Try.func30, Try.ntmps30
  go_wp2_with fail
  refine HA'.out.mono ?_
  rintro r w1 ⟨p', hp', rfl, h1, g1⟩
  have T1 := hid (HB.out.1.left h1 g1)
  have HP := hid hp'
  clear h1 g1 hp' HA'
  go_wp2_with fail
  refine (HR'.out w1 p' T1.out.1).mono ?_
  rintro r w2 ⟨F', rfl, h2, g2⟩
  have T2 := hid (T1.out.1.right h2 g2)
  clear h2 g2 HR'
  go_wp2_with fail
  go_ret
  exact ⟨p', F', HP.out, rfl, T2.out.1, (HB.out.2.1.trans T1.out.2).trans T2.out.2⟩

theorem box_cell {w w' : World} {own own' : Nat → Prop} {x : Nat} {C : Array Value} {t : TypeId} (hx : w.heap[x]? = some (.cells C t (0, 0))) (g : Goes own w w' own') (hn : ¬ own x) (j : Nat) : w'.cell? ⟨x, j, none⟩ = C[j]? := by
  rw [World.cell?_of_block (w := w) (a := ⟨x, j, none⟩) (g.block x (lt_of_heap hx) hn), cell_of_row w _ _ _ _ _ hx]

set_option maxHeartbeats 2000000 in
theorem deed_fuse (w : World) (p : DP) (rb : Nat) (F : Nat → FR) (d : SD) (xn : Int) (pa : Option Addr) (K : List Bool) (h : Deed1 w p rb F d xn pa K) (xt : ByteArray) (pc : Nat) :
    Calls Try.prog 30 #[.pointer (some ⟨p.b, 0, none⟩), .pointer (some ⟨rb, 0, none⟩), .agg #[.int .i64 3, .int .i64 xn, .string xt, .slice pa K.length pc]] w fun e w' =>
      ∃ p' F', p'.b = p.b ∧ e = .returned (.bool true) ∧ Two w' p' rb F' (d.fuse xn) (d.fuse xn) ∧ Goes (own2 p rb F) w w' (own2 p' rb F') := by
  have B := h.two.box #[.int .i64 3, .int .i64 xn, .string xt, .slice pa K.length pc]
  have HA' := hid (fuse_any _ p d B.1.disk xn h.max)
  have HR' : Hid (∀ w1 p', Two w1 p' rb F (d.fuse xn) d → _) := fun w1 p' (h1 : Two w1 p' rb F (d.fuse xn) d) => ref_fuse w1 rb F d h1.ref xn h.max
  have HB := hid B
  clear h B
  go_enter Try.func30, Try.ntmps30
  go_wp2_with fail
  refine HA'.out.mono ?_
  rintro r w1 ⟨rfl, h1, g1⟩
  have T1 := hid (HB.out.1.left h1 g1)
  have x1 : w1.cell? ⟨w.heap.size, 1, none⟩ = some (.int .i64 xn) := box_cell HB.out.2.2.2 T1.out.2 HB.out.2.2.1 1
  clear h1 g1 HA'
  go_wp2_with fail
  refine (HR'.out w1 p T1.out.1).mono ?_
  rintro r w2 ⟨rfl, h2, g2⟩
  have T2 := hid (T1.out.1.right h2 g2)
  clear h2 g2 HR'
  go_wp2_with fail
  go_ret
  exact ⟨p, F, rfl, rfl, T2.out.1, (HB.out.2.1.trans T1.out.2).trans T2.out.2⟩

set_option maxHeartbeats 2000000 in
theorem deed_crash (w : World) (p : DP) (rb : Nat) (F : Nat → FR) (d : SD) (xn : Int) (pa : Option Addr) (K : List Bool) (h : Deed1 w p rb F d xn pa K) (xk : Int) (k0 : xk ≠ 0) (k1 : xk ≠ 1) (k2 : xk ≠ 2) (k3 : xk ≠ 3) (xt : ByteArray) (pc : Nat) :
    Calls Try.prog 30 #[.pointer (some ⟨p.b, 0, none⟩), .pointer (some ⟨rb, 0, none⟩), .agg #[.int .i64 xk, .int .i64 xn, .string xt, .slice pa K.length pc]] w fun e w' =>
      ∃ p' F', p'.b = p.b ∧ e = .returned (.bool true) ∧ Two w' p' rb F' (d.crash K) (d.crash K) ∧ Goes (own2 p rb F) w w' (own2 p' rb F') := by
  have B := h.two.box #[.int .i64 xk, .int .i64 xn, .string xt, .slice pa K.length pc]
  have K1 := h.keep.goes B.2.1 h.kn
  have HA' := hid (crash_any _ p d B.1.disk pa pc K K1 (fun a b c e f => h.kn a b c e (.inl f)) (room16 _ h.room).2)
  have HR' : Hid (∀ w1 p', Two w1 p' rb F (d.crash K) d → Goes (own2 p rb F) (w.alloc (.cells #[.int .i64 xk, .int .i64 xn, .string xt, .slice pa K.length pc] 51)) w1 (own2 p' rb F) → _) :=
    fun w1 p' (h1 : Two w1 p' rb F (d.crash K) d) g => ref_crash w1 rb F d h1.ref h.pos pa pc K (K1.goes g h.kn) (fun a b c e f => h.kn a b c e (.inr f)) (room16 _ h.room).2
  have HB := hid B
  have n0 : (xk == 0) = false := by simpa using k0
  have n1 : (xk == 1) = false := by simpa using k1
  have n2 : (xk == 2) = false := by simpa using k2
  have n3 : (xk == 3) = false := by simpa using k3
  clear h B K1 k0 k1 k2 k3
  go_enter Try.func30, Try.ntmps30
  go_wp2_with fail
  refine HA'.out.mono ?_
  rintro r w1 ⟨p', hp', rfl, h1, g1⟩
  have T1 := hid (HB.out.1.left h1 g1)
  have HP := hid hp'
  have x3 : w1.cell? ⟨w.heap.size, 3, none⟩ = some (.slice pa K.length pc) := box_cell HB.out.2.2.2 T1.out.2 HB.out.2.2.1 3
  clear h1 g1 HA' hp'
  go_wp2_with fail
  refine (HR'.out w1 p' T1.out.1 T1.out.2).mono ?_
  rintro r w2 ⟨F', rfl, h2, g2⟩
  have T2 := hid (T1.out.1.right h2 g2)
  clear h2 g2 HR'
  go_wp2_with fail
  go_ret
  exact ⟨p', F', HP.out, rfl, T2.out.1, (HB.out.2.1.trans T1.out.2).trans T2.out.2⟩

end Go.Proofs.Ythfpinjegfgeiaa

/- A deed to both disks: a Write; and any. -/
namespace Go.Proofs.Ythfpinjegfgeiaa
open Go Go.RowKit
set_option maxRecDepth 100000

set_option maxHeartbeats 4000000 in
theorem deed_write (w : World) (p : DP) (rb : Nat) (F : Nat → FR) (d : SD) (xn : Int) (pa : Option Addr) (K : List Bool) (h : Deed1 w p rb F d xn pa K) (xt : ByteArray) (pc : Nat) :
    Calls Try.prog 30 #[.pointer (some ⟨p.b, 0, none⟩), .pointer (some ⟨rb, 0, none⟩), .agg #[.int .i64 0, .int .i64 xn, .string xt, .slice pa K.length pc]] w fun e w' =>
      ∃ p' F', p'.b = p.b ∧ e = .returned (.bool true) ∧ Two w' p' rb F' (d.write xn xt).2 (d.write xn xt).2 ∧ Goes (own2 p rb F) w w' (own2 p' rb F') := by
  have B := h.two.box #[.int .i64 0, .int .i64 xn, .string xt, .slice pa K.length pc]
  have HA' := hid (write_any (w.alloc (.cells #[.int .i64 0, .int .i64 xn, .string xt, .slice pa K.length pc] 51)).drew p d B.1.drew.disk xn xt h.room)
  have HR' : Hid (∀ w1 p', Two w1 p' rb F (d.write xn xt).2 d → _) := fun w1 p' (h1 : Two w1 p' rb F (d.write xn xt).2 d) => ref_write w1 rb F d h1.ref xn xt (room16 _ h.room).1
  have HB := hid B
  generalize (d.write xn xt).1 = c at HA' HR'
  have x1 : (w.alloc (.cells #[.int .i64 0, .int .i64 xn, .string xt, .slice pa K.length pc] 51)).drew.cell? ⟨w.heap.size, 1, none⟩ = some (.int .i64 xn) := box_cell B.2.2.2 (Goes.refl (own2 p rb F) _).drew B.2.2.1 1
  have x2 : (w.alloc (.cells #[.int .i64 0, .int .i64 xn, .string xt, .slice pa K.length pc] 51)).drew.cell? ⟨w.heap.size, 2, none⟩ = some (.string xt) := box_cell B.2.2.2 (Goes.refl (own2 p rb F) _).drew B.2.2.1 2
  clear h B
  go_enter Try.func30, Try.ntmps30
  go_wp2_with fail
  go_region_held3 (fun W => W.cell? ⟨w.heap.size, 1, none⟩ = some (.int .i64 xn) ∧ W.cell? ⟨w.heap.size, 2, none⟩ = some (.string xt))
    (first | (go_split_ands; exact ⟨by assumption, by assumption⟩))
    ((first | (go_at_call 51; refine HA'.out.mono ?_; rintro r w1 ⟨p', hp', rfl, h1, g1⟩; have T1 := hid (HB.out.1.drew.left h1 g1); have HP := hid hp'; have y1 : w1.cell? ⟨w.heap.size, 1, none⟩ = some (.int .i64 xn) := box_cell HB.out.2.2.2 ((Goes.refl _ _).drew.trans T1.out.2) HB.out.2.2.1 1; have y2 : w1.cell? ⟨w.heap.size, 2, none⟩ = some (.string xt) := box_cell HB.out.2.2.2 ((Goes.refl _ _).drew.trans T1.out.2) HB.out.2.2.1 2; clear h1 g1 hp') | (go_at_call 52; refine (HR'.out w1 p' T1.out.1).mono ?_; rintro r w2 ⟨F', rfl, h2, g2⟩; have T2 := hid (T1.out.1.right h2 g2); have z1 : w2.cell? ⟨w.heap.size, 1, none⟩ = some (.int .i64 xn) := box_cell HB.out.2.2.2 (((Goes.refl _ _).drew.trans T1.out.2).trans T2.out.2) HB.out.2.2.1 1; have z2 : w2.cell? ⟨w.heap.size, 2, none⟩ = some (.string xt) := box_cell HB.out.2.2.2 (((Goes.refl _ _).drew.trans T1.out.2).trans T2.out.2) HB.out.2.2.1 2; clear h2 g2)))
  all_goals skip
  go_wp2_with fail
  go_ret
  exact ⟨p', F', HP.out, rfl, T2.out.1, (HB.out.2.1.drew.trans T1.out.2).trans T2.out.2⟩

theorem deed_any (w : World) (p : DP) (rb : Nat) (F : Nat → FR) (d : SD) (xn : Int) (pa : Option Addr) (K : List Bool) (h : Deed1 w p rb F d xn pa K) (xk : Int) (xt : ByteArray) (pc : Nat) :
    Calls Try.prog 30 #[.pointer (some ⟨p.b, 0, none⟩), .pointer (some ⟨rb, 0, none⟩), .agg #[.int .i64 xk, .int .i64 xn, .string xt, .slice pa K.length pc]] w fun e w' =>
      ∃ p' F', p'.b = p.b ∧ e = .returned (.bool true) ∧ Two w' p' rb F' (d.deed xk xn xt K) (d.deed xk xn xt K) ∧ Goes (own2 p rb F) w w' (own2 p' rb F') := by
  unfold SD.deed
  by_cases k0 : xk = 0
  · subst k0
    rw [if_pos rfl]
    exact deed_write w p rb F d xn pa K h xt pc
  · rw [if_neg k0]
    by_cases k1 : xk = 1
    · subst k1
      rw [if_pos rfl]
      exact deed_read w p rb F d xn pa K h xt pc
    · rw [if_neg k1]
      by_cases k2 : xk = 2
      · subst k2
        rw [if_pos rfl]
        exact deed_flush w p rb F d xn pa K h xt pc
      · rw [if_neg k2]
        by_cases k3 : xk = 3
        · subst k3
          rw [if_pos rfl]
          exact deed_fuse w p rb F d xn pa K h xt pc
        · rw [if_neg k3]
          exact deed_crash w p rb F d xn pa K h xk k0 k1 k2 k3 xt pc

end Go.Proofs.Ythfpinjegfgeiaa
