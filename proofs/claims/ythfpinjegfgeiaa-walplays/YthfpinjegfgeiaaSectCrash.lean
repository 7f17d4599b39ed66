/- A disk of sectors: Crash. -/
import Derived.Test.YthfpinjegfgeiaaSectWrite
namespace Go.Proofs.Ythfpinjegfgeiaa
open Go Go.RowKit
set_option maxRecDepth 100000
attribute [local go_sem ↓] load63_pre

/-! ### The plain model -/
def kept (K : List Bool) (i : Nat) : Bool := K.getD i false
/-- What is safe when the first i Writes have been looked at. -/
def after (L : List (Nat × ByteArray)) (K : List Bool) (S : List ByteArray) : Nat → List ByteArray
  | 0 => S
  | i + 1 => match L[i]? with
    | some x => if kept K i then (after L K S i).set x.1 x.2 else after L K S i
    | none => after L K S i
def SD.crash (d : SD) (K : List Bool) : SD := ⟨after d.loose K d.safe d.loose.length, after d.loose K d.safe d.loose.length, [], false, 0⟩

theorem after_len (L : List (Nat × ByteArray)) (K : List Bool) (S : List ByteArray) : ∀ i, (after L K S i).length = S.length
  | 0 => rfl
  | i + 1 => by
    unfold after
    have ih := after_len L K S i
    split
    · split
      · rw [List.length_set, ih]
      · exact ih
    · exact ih
theorem after_next (L : List (Nat × ByteArray)) (K : List Bool) (S : List ByteArray) (i : Nat) (x : Nat × ByteArray) (h : L[i]? = some x) :
    after L K S (i + 1) = if kept K i then (after L K S i).set x.1 x.2 else after L K S i := by rw [after, h]

/-! ### In memory -/
/-- The list that is handed in: its cells lie where it says. -/
def KeepAt (w : World) (ka : Option Addr) (K : List Bool) : Prop := K ≠ [] → ∃ kb ko, ka = some ⟨kb, ko, none⟩ ∧ ∀ j b, K[j]? = some b → w.cell? ⟨kb, ko + j, none⟩ = some (.bool b)

theorem KeepAt.lt {w : World} {ka : Option Addr} {K : List Bool} (h : KeepAt w ka K) (hne : K ≠ []) (kb ko : Nat) (e : ka = some ⟨kb, ko, none⟩) : kb < w.heap.size := by
  obtain ⟨kb', ko', e', hc⟩ := h hne
  rw [e] at e'
  injection e' with e'
  injection e' with e1 e2
  subst e1
  match K, hne with
  | b :: r, _ => exact World.block_lt_of_cell? w _ (hc 0 b rfl)

/-- The safe sector number k is written. -/
theorem DiskAt.putSafe {w : World} {p : DP} {d : SD} (h : DiskAt w p d) (k : Nat) (hk : k < d.n) (x : ByteArray) (hx : x.size = 64) :
    DiskAt (w.setCells p.bs (k * 64) (bc x)) p { d with safe := d.safe.set k x } := by
  have e64 : ∀ y ∈ d.safe, (bc y).length = 64 := fun y hy => by rw [bc_len]; exact h.ok.safe64 y hy
  have hk' : k < d.safe.length := by rw [h.ok.len]; exact hk
  have e := setCells_eq_setRow Try.prog w p.bs (k * 64) _ _ (bc x) h.hs (by
    rw [bc_len, hx, List.size_toArray, sec_len h.ok.safe64]
    omega) (bc_one x)
  rw [List.toList_toArray, bc_len, hx, ← flat_set d.safe e64 k x hk' (by rw [bc_len, hx])] at e
  rw [e]
  exact {
    hd := by rw [setRow_other _ _ _ _ h.n1]; exact h.hd
    hs := setRow_heap w _ _ _ _ _ h.hs
    hq := by rw [setRow_other _ _ _ _ (Ne.symm h.n3)]; exact h.hq
    hl := ownsRow_of_block h.hl (fun g hg => setRow_other _ _ _ _ (h.nl g (by rw [ownBlock_slice] at hg; exact hg)).2.1)
    n1 := h.n1
    n2 := h.n2
    n3 := h.n3
    nl := h.nl
    ok := ⟨by rw [List.length_set]; exact h.ok.len, h.ok.small, by
        intro y hy
        rcases List.mem_or_eq_of_mem_set hy with hy | rfl
        · exact h.ok.safe64 y hy
        · exact hx, h.ok.seen64, h.ok.loose64, h.ok.left0, h.ok.leftM⟩ }

theorem Side.c0 {p : DP} {d : SD} {nb : Nat} {C : List Value} {W : World} (h : Side p d nb C W) : W.cell? ⟨p.b, 0, none⟩ = some (.slice (some ⟨p.bs, 0, none⟩) d.n d.n) := by
  obtain ⟨d', h1, h2⟩ := h.at_
  rw [← h2]; exact h1.c0
theorem Side.at0 {p : DP} {d : SD} {nb : Nat} {W : World} {x : Nat × ByteArray} (h : Side p d nb (wcell x) W) : W.cell? ⟨nb, 0, none⟩ = some (.int .i64 (x.1 : Int)) := by
  rw [cell_of_row W _ _ _ _ _ h.blk]; rfl
theorem Side.thereS {p : DP} {d : SD} {nb : Nat} {C : List Value} {W : World} (h : Side p d nb C W) (k : Nat) (hk : k < d.n) : W.there p.bs (k * 64) 64 := by
  obtain ⟨d', h1, h2⟩ := h.at_
  refine there_of_row h1.hs _ _ ?_
  rw [List.size_toArray, sec_len h1.ok.safe64, h1.ok.len]
  omega
theorem Side.putS {p : DP} {d : SD} {nb : Nat} {C : List Value} {W : World} (h : Side p d nb C W) (k : Nat) (hk : k < d.n) (x : ByteArray) (hx : x.size = 64) : Side p d nb C (W.setCells p.bs (k * 64) (bc x)) := by
  obtain ⟨d', h1, h2⟩ := h.at_
  refine ⟨⟨_, h1.putSafe k (by omega) x hx, by rw [← h2]; rfl⟩, ?_, h.far⟩
  rw [heap_setCells _ _ _ _ _ (fun e => h.far (.inr (.inl e)))]
  exact h.blk

/-- A world in which the disk's two rows lie, what is safe being as it was. -/
def SafeAs (p : DP) (n : Nat) (q : List ByteArray) (W : World) : Prop := ∃ d, DiskAt W p d ∧ d.safe = q ∧ d.n = n
theorem SafeAs.run {p : DP} {n : Nat} {q : List ByteArray} {W : World} (h : SafeAs p n q W) (ty : TypeId) :
    (Builtin.copy_ #[76, 76] ty #[.slice (some ⟨p.bq, 0, none⟩) n n, .slice (some ⟨p.bs, 0, none⟩) n n]).run Try.prog W = .ok (goInt n) (W.setRow p.bq (q.flatMap bc).toArray) := by
  obtain ⟨d, h, rfl, rfl⟩ := h
  exact h.run_seen ty
theorem SafeAs.drew {p : DP} {n : Nat} {q : List ByteArray} {W : World} (h : SafeAs p n q W) : SafeAs p n q W.drew := by
  obtain ⟨d, h, rfl, rfl⟩ := h
  exact ⟨d, h.drew, rfl, rfl⟩
theorem SafeAs.seen {p : DP} {n : Nat} {q : List ByteArray} {W : World} (h : SafeAs p n q W) : SafeAs p n q (W.setRow p.bq (q.flatMap bc).toArray) := by
  obtain ⟨d, h, rfl, rfl⟩ := h
  exact ⟨_, h.toSeen, rfl, h.ok.len⟩
theorem SafeAs.c0 {p : DP} {n : Nat} {q : List ByteArray} {W : World} (h : SafeAs p n q W) : W.cell? ⟨p.b, 0, none⟩ = some (.slice (some ⟨p.bs, 0, none⟩) n n) := by
  obtain ⟨d, h, rfl, rfl⟩ := h
  exact h.c0
theorem SafeAs.c1 {p : DP} {n : Nat} {q : List ByteArray} {W : World} (h : SafeAs p n q W) : W.cell? ⟨p.b, 1, none⟩ = some (.slice (some ⟨p.bq, 0, none⟩) n n) := by
  obtain ⟨d, h, rfl, rfl⟩ := h
  exact h.c1

/-- What a round of the loop is given: the Write number k, where it lies. -/
theorem loose_at {w : World} {p : DP} {d : SD} (h : DiskAt w p d) (k : Nat) (x : Nat × ByteArray) (hx : d.loose[k]? = some x) :
    ∃ g, p.la = some ⟨g, 0, none⟩ ∧ (load63 (.pointer (some ⟨g, k * 65, none⟩))).run Try.prog w = .ok (.agg (wcell x).toArray) w := by
  have hk : k < d.loose.length := (List.getElem?_eq_some_iff.1 hx).1
  have hx64 : ∀ y ∈ d.loose, (wcell y).length = 65 := fun y hy => wcell_len y (h.ok.loose64 y hy).2
  rcases h.hl.2 with ⟨_, h0⟩ | ⟨g, cap, cur, hv, _, hg, _, _, _, htk⟩
  · omega
  · injection hv with hv1 _ _
    refine ⟨g, hv1, run_load63 w g (k * 65) (wcell x) (range_of_row hg _ _ (fun j v hv => ?_)) (hx64 x (List.mem_of_getElem? hx))⟩
    have e := flat_at (enc := wcell) (c := 65) d.loose hx64 k x hx j v hv
    rw [← htk] at e
    rw [List.getElem?_take] at e
    split at e
    · exact e
    · cases e

theorem run_store_write (W : World) (x : Nat × ByteArray) (hx : x.2.size = 64) :
    (storeCells ⟨W.heap.size, 0, none⟩ (wcell x)).run Try.prog (W.alloc (.cells zwr 101)) = .ok () (W.alloc (.cells (wcell x).toArray 101)) := by
  have hl : (wcell x).toArray.size = 65 := by rw [List.size_toArray]; exact wcell_len _ hx
  exact run_storeCells_new (P := Try.prog) W 101 zwr (wcell x).toArray (by rw [hl]; exact Sect.size63) (by rw [hl]; exact zwr_size) (all_oneCell_toArray (wcell_one _))

set_option maxHeartbeats 4000000 in
theorem crash_any (w : World) (p : DP) (d : SD) (h : DiskAt w p d) (ka : Option Addr) (kc : Nat) (K : List Bool) (hK : KeepAt w ka K) (hKn : K ≠ [] → ∀ kb ko, ka = some ⟨kb, ko, none⟩ → ¬ p.own kb)
    (hroom : d.loose.length ≤ 9223372036854775806) : Calls Try.prog 42 #[.pointer (some ⟨p.b, 0, none⟩), .slice ka K.length kc] w fun e w' =>
    ∃ p' : DP, p'.b = p.b ∧ e = .returned (.tuple #[]) ∧ DiskAt w' p' (d.crash K) ∧ Goes p.own w w' p'.own := by
  obtain ⟨pb, bs, bq, la, lc⟩ := p
  have c2 : w.cell? ⟨pb, 2, none⟩ = some (.slice la d.loose.length lc) := h.c2
  have hz := (zero_of_info Sect.zero63).1
  have ZW := zwr_size
  have SW : ∀ (W : World) (x : Nat × ByteArray), x.2.size = 64 → (storeCells ⟨W.heap.size, 0, none⟩ (wcell x)).run Try.prog (W.alloc (.cells zwr 101)) = .ok () (W.alloc (.cells (wcell x).toArray 101)) := run_store_write
  generalize zwr = zw at hz ZW SW
  have SW' := hid SW
  have H := hid h
  have HK := hid hK
  have HKn := hid hKn
  clear h hK hKn SW
  show Calls Try.prog 42 #[.pointer (some ⟨pb, 0, none⟩), .slice ka K.length kc] w fun e w' =>
    ∃ p' : DP, p'.b = pb ∧ e = .returned (.tuple #[]) ∧ DiskAt w' p' (d.crash K) ∧ Goes (DP.own ⟨pb, bs, bq, la, lc⟩) w w' p'.own
  go_enter Try.func42, Try.ntmps42
  go_wp2_with fail
  go_loopw [11] (fun i wr => ∃ k : Nat, k ≤ d.loose.length ∧ i = .int .i64 k ∧ Hid (DiskAt wr ⟨pb, bs, bq, la, lc⟩ { d with safe := after d.loose K d.safe k }) ∧ Hid (Goes (DP.own ⟨pb, bs, bq, la, lc⟩) w wr (DP.own ⟨pb, bs, bq, la, lc⟩))) (fun i _ => d.loose.length - (intOf i).toNat)
  case atStart => exact ⟨0, Nat.zero_le _, rfl, H.out, hid (Goes.refl _ _)⟩
  case round =>
    obtain ⟨k, hk, rfl, hr, gr⟩ := hrel
    by_cases hlt : k < d.loose.length
    · obtain ⟨⟨xa, xt⟩, hx⟩ : ∃ x, d.loose[k]? = some x := ⟨_, List.getElem?_eq_getElem hlt⟩
      obtain ⟨g, hla, hld⟩ := loose_at hr.out k (xa, xt) hx
      have hla : la = some ⟨g, 0, none⟩ := hla
      have hx2 : xa < d.n ∧ xt.size = 64 := hr.out.ok.loose64 (xa, xt) (List.mem_of_getElem? hx)
      have hst := fun W => SW'.out W (xa, xt) hx2.2
      have hCl := wcell_len (xa, xt) hx2.2
      have nxt := hid (after_next d.loose K d.safe k (xa, xt) hx)
      have HX2 := hid hx2
      subst hla
      have k0 : (0 : Int) ≤ (k : Int) := by omega
      have k1 : (k : Int) < d.loose.length := by omega
      have x0 : (0 : Int) ≤ (xa : Int) := by omega
      have x1 : (xa : Int) < d.n := by have := hx2.1; omega
      have AL := hid (hr.out.alloc (.cells (wcell (xa, xt)).toArray 101))
      have GL := hid (gr.out.alloc (.cells (wcell (xa, xt)).toArray 101))
      clear hx hx2
      by_cases hi : k < K.length
      · obtain ⟨b0, hb0⟩ : ∃ b0, K[k]? = some b0 := ⟨_, List.getElem?_eq_getElem hi⟩
        obtain ⟨kb, ko, hka, hkc⟩ := HK.out (by intro e; rw [e] at hi; simp at hi)
        subst hka
        have hkw := hkc k b0 hb0
        have hkl := World.block_lt_of_cell? w _ hkw
        have hko : ¬ DP.own ⟨pb, bs, bq, some ⟨g, 0, none⟩, lc⟩ kb := HKn.out (by intro e; rw [e] at hi; simp at hi) kb ko rfl
        have hkr : wr.cell? ⟨kb, ko + k, none⟩ = some (.bool b0) := (World.cell?_of_block (w := w) (a := ⟨kb, ko + k, none⟩) (gr.out.block kb hkl hko)).trans hkw
        have hka : ∀ o, (wr.alloc o).cell? ⟨kb, ko + k, none⟩ = some (.bool b0) := fun o => by rw [World.cell?_alloc_past _ _ _ (Nat.lt_of_lt_of_le hkl gr.out.size)]; exact hkr
        have kp : kept K k = b0 := by simp [kept, List.getD, hb0]
        have KP := hid kp
        have i1 : decide ((k : Int) < (K.length : Int)) = true := by simp; omega
        have i2 : decide (k < K.length) = true := by simp; omega
        clear hb0 hkc hkw hko hkr kp
        cases b0
        · have e1 : Hid (after d.loose K d.safe (k + 1) = after d.loose K d.safe k) := by rw [nxt.out, KP.out]; rfl
          go_wp2_with fail
          go_roundw
          case rel => exact ⟨k + 1, by omega, by go_num, by rw [e1.out]; exact AL.out, GL.out⟩
          case measure => simp [intOf]; omega
        · have e1 : Hid (after d.loose K d.safe (k + 1) = (after d.loose K d.safe k).set xa xt) := by rw [nxt.out, KP.out]; rfl
          go_wp2_with fail
          have far : ¬ DP.own ⟨pb, bs, bq, some ⟨g, 0, none⟩, lc⟩ wr.heap.size := fun e => by have := hr.out.own_lt _ e; omega
          have s3 : Side ⟨pb, bs, bq, some ⟨g, 0, none⟩, lc⟩ d wr.heap.size (wcell (xa, xt)) (wr.alloc (.cells (wcell (xa, xt)).toArray 101)) := ⟨⟨_, AL.out, rfl⟩, heap_alloc_new wr _, far⟩
          generalize wr.heap.size = nb at *
          generalize wr.alloc (.cells (wcell (xa, xt)).toArray 101) = w3 at *
          have s3' := s3.drew
          have hu := Try.underlying84
          obtain ⟨cs, hcs⟩ : ∃ cs, cs = bc xt := ⟨_, rfl⟩
          have hcl : cs.length = 64 := by rw [hcs, bc_len, HX2.out.2]
          have hc1 : ∀ v ∈ cs, v.oneCell' = true := by rw [hcs]; exact bc_one xt
          have hi : (Try.prog.info? 84).map (·.size) = some cs.length := by rw [Sect.size61, hcl]
          have SR : Hid (∀ W, Side ⟨pb, bs, bq, some ⟨g, 0, none⟩, lc⟩ d nb (wcell (xa, xt)) W → W.rangeAt nb 1 cs) := by rw [hcs]; exact fun W h => h.range
          have SP : Hid (∀ W, Side ⟨pb, bs, bq, some ⟨g, 0, none⟩, lc⟩ d nb (wcell (xa, xt)) W → Side ⟨pb, bs, bq, some ⟨g, 0, none⟩, lc⟩ d nb (wcell (xa, xt)) (W.setCells bs (xa * 64) cs)) := by rw [hcs]; exact fun W h => h.putS xa HX2.out.1 xt HX2.out.2
          have ST : Hid (∀ W, Side ⟨pb, bs, bq, some ⟨g, 0, none⟩, lc⟩ d nb (wcell (xa, xt)) W → W.there bs (xa * 64) 64) := fun W h => h.thereS xa HX2.out.1
          have HCS := hid hcs
          clear hcs hld hst hz
          go_region_held3 (fun W => W.cell? ⟨pb, 0, none⟩ = some (.slice (some ⟨bs, 0, none⟩) d.n d.n) ∧ W.cell? ⟨nb, 0, none⟩ = some (.int .i64 (xa : Int)) ∧ W.rangeAt nb 1 cs ∧ W.there bs (xa * 64) 64 ∧ Side ⟨pb, bs, bq, some ⟨g, 0, none⟩, lc⟩ d nb (wcell (xa, xt)) W)
            (first | (go_split_ands; exact ⟨by assumption, by assumption, by assumption, by assumption, by assumption⟩) | (go_split_ands; have X := Side.drew (by assumption); exact ⟨X.c0, X.at0, SR.out _ X, ST.out _ X, X⟩) | (go_split_ands; have X := SP.out _ (by assumption); exact ⟨X.c0, X.at0, SR.out _ X, ST.out _ X, X⟩) | exact ⟨s3'.c0, s3'.at0, SR.out _ s3', ST.out _ s3', s3'⟩ | exact ⟨s3.c0, s3.at0, SR.out _ s3, ST.out _ s3, s3⟩) (fail)
          have R1 : Hid (DiskAt (w3.drew.setCells bs (xa * 64) cs) ⟨pb, bs, bq, some ⟨g, 0, none⟩, lc⟩ { d with safe := after d.loose K d.safe (k + 1) }) := by
            rw [HCS.out, e1.out]
            exact AL.out.drew.putSafe xa HX2.out.1 xt HX2.out.2
          have R2 : Hid (Goes (DP.own ⟨pb, bs, bq, some ⟨g, 0, none⟩, lc⟩) w (w3.drew.setCells bs (xa * 64) cs) (DP.own ⟨pb, bs, bq, some ⟨g, 0, none⟩, lc⟩)) := goes_setCells bs cs (xa * 64) w _ GL.out.drew (.inl (.inr (.inl rfl)))
          clear SR SP ST s3 s3' AL GL HCS hu hi hcl hc1
          go_wp2_with fail
          go_roundw
          case rel => exact ⟨k + 1, by omega, by go_num, R1.out, R2.out⟩
          case measure => simp [intOf]; omega
      · have i1 : decide ((k : Int) < (K.length : Int)) = false := by simp; omega
        have i2 : decide (k < K.length) = false := by simp; omega
        have kp : kept K k = false := by unfold kept; rw [List.getD_eq_getElem?_getD, List.getElem?_eq_none (by omega)]; rfl
        have e1 : Hid (after d.loose K d.safe (k + 1) = after d.loose K d.safe k) := by rw [nxt.out, kp]; rfl
        go_wp2_with fail
        go_roundw
        case rel => exact ⟨k + 1, by omega, by go_num, by rw [e1.out]; exact AL.out, GL.out⟩
        case measure => simp [intOf]; omega
    · have hkm : k = d.loose.length := by omega
      have j1 : decide ((k : Int) < (d.loose.length : Int)) = false := by simp; omega
      have j2 : decide (k < d.loose.length) = false := by simp; omega
      have hf : Hid (DiskAt wr ⟨pb, bs, bq, la, lc⟩ { d with safe := after d.loose K d.safe d.loose.length }) := by rw [← hkm]; exact hr
      generalize hS : after d.loose K d.safe d.loose.length = S at hf
      have HS := hid hS
      have s0 : SafeAs ⟨pb, bs, bq, la, lc⟩ d.n S wr := ⟨_, hf.out, rfl, rfl⟩
      have s1 := s0.drew
      clear hr hS
      go_wp2_with fail
      go_region_held3 (fun W => W.cell? ⟨pb, 0, none⟩ = some (.slice (some ⟨bs, 0, none⟩) d.n d.n) ∧ W.cell? ⟨pb, 1, none⟩ = some (.slice (some ⟨bq, 0, none⟩) d.n d.n) ∧ SafeAs ⟨pb, bs, bq, la, lc⟩ d.n S W)
        (first | (go_split_ands; exact ⟨by assumption, by assumption, by assumption⟩) | (go_split_ands; have X := SafeAs.drew (by assumption); exact ⟨X.c0, X.c1, X⟩) | (go_split_ands; have X := SafeAs.seen (by assumption); exact ⟨X.c0, X.c1, X⟩) | exact ⟨s1.c0, s1.c1, s1⟩ | exact ⟨s0.c0, s0.c1, s0⟩)
        ((refine step_copy2 (by rfl) _ _ _ _ (by rfl) (.slice (some ⟨bq, 0, none⟩) d.n d.n) (.slice (some ⟨bs, 0, none⟩) d.n d.n) _ _ (by rfl) (by rfl) (fun ty => SafeAs.run (p := ⟨pb, bs, bq, la, lc⟩) (by go_split_ands; assumption) ty) ?_))
      have h2 := hf.out.drew.toSeen
      have g2 : Goes (DP.own ⟨pb, bs, bq, la, lc⟩) w (wr.drew.setRow bq (List.flatMap bc S).toArray) (DP.own ⟨pb, bs, bq, la, lc⟩) := gr.out.drew.setRow (.inl (.inr (.inr (.inl rfl)))) _
      simp only at h2
      generalize (wr.drew.setRow bq (List.flatMap bc S).toArray) = w2 at *
      clear gr hf s0 s1
      have c2 : w2.cell? ⟨pb, 2, none⟩ = some (.slice la d.loose.length lc) := h2.c2
      have f2 : w2.frozen? ⟨pb, 2, none⟩ = false := h2.fz 2
      have h3 := h2.toNone
      have g3 : Goes (DP.own ⟨pb, bs, bq, la, lc⟩) w (w2.setCell ⟨pb, 2, none⟩ (.slice none 0 0)) (DP.own ⟨pb, bs, bq, none, 0⟩) := (g2.setCell (q := ⟨pb, 2, none⟩) (.inl (.inl rfl)) _).same (by rintro k (hk | hk | hk | hk); exact .inl hk; exact .inr (.inl hk); exact .inr (.inr (.inl hk)); simp [DP.lo] at hk)
      have FU := hid (fuse_any _ _ _ h3 (-1) (by omega))
      have G3 := hid g3
      clear h2 h3 g2 g3
      go_wp2_with fail
      refine FU.out.mono ?_
      rintro r w3 ⟨rfl, h4, g4⟩
      have H4 := hid h4
      have G4 := hid g4
      clear h4 g4
      go_wp2
      all_goals (go_end0; exact ⟨⟨pb, bs, bq, none, 0⟩, rfl, rfl, by unfold SD.crash; rw [HS.out]; exact H4.out, G3.out.trans G4.out⟩)

end Go.Proofs.Ythfpinjegfgeiaa
