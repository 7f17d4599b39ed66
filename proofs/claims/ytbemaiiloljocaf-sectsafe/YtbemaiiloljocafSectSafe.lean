/-
  quirkeep.SectSafe: whatever is done, whatever is kept: the call returns true, and what was handed in is as it was. Conditions: at most 2^47 bytes of deeds (the row's own reach gives it).
-/
import Derived.Test.YtbemaiiloljocafSectSf
import Derived.Laws.Concat
namespace Go.Proofs.Ytbemaiiloljocaf
open Go Go.RowKit
set_option maxRecDepth 100000

structure Dd where
  kind : Int
  n : Int
  text : ByteArray
  pa : Option Addr
  pl : Nat
  pc : Nat
def DeedsAt (w : World) (da : Option Addr) (X : List Dd) : Prop := X ≠ [] → ∃ db off, da = some ⟨db, off, none⟩ ∧ ∀ j x, X[j]? = some x →
  w.cell? ⟨db, off + j * 4, none⟩ = some (.int .i64 x.kind) ∧ w.cell? ⟨db, off + j * 4 + 1, none⟩ = some (.int .i64 x.n) ∧ w.cell? ⟨db, off + j * 4 + 2, none⟩ = some (.string x.text) ∧ w.cell? ⟨db, off + j * 4 + 3, none⟩ = some (.slice x.pa x.pl x.pc)

/-! ### The first deeds -/
def xb : ByteArray := ⟨#[120]⟩
def D1 : SD := ((SD.fresh 4).write 1 xb).2
def D2 : SD := D1.flush.2
theorem D1_code : ((SD.fresh 4).write 1 xb).1 = 0 := by rfl
theorem D2_code : D1.flush.1 = 0 := by rfl
theorem D1_loose : D1.loose.length = 1 := by rfl
theorem D2_loose : D2.loose = [] := by rfl
theorem D2_fused : D2.fused = false := by rfl
def T0 (k : Nat) : List ByteArray := if k = 1 then [pad xb] else [zeros 64]
theorem D2_seen : D2.seen = [zeros 64, pad xb, zeros 64, zeros 64] := by rfl
theorem D2_safe : D2.safe = [zeros 64, pad xb, zeros 64, zeros 64] := by rfl
theorem D2_may : MayBe D2 T0 := by
  refine ⟨by unfold SD.n; rw [D2_seen]; rfl, fun k hk => ?_, by rw [D2_loose]; simp, fun k hk => ?_⟩
  · rw [D2_safe]
    rcases four hk with rfl | rfl | rfl | rfl <;> simp [at4, T0]
  · rw [D2_seen]
    rcases four hk with rfl | rfl | rfl | rfl <;> simp [at4, T0]

theorem zeros_cut (a b : Nat) (h : a ≤ b) (n : Nat) (hb : b ≤ n) : (zeros n).extract a b = zeros (b - a) := by
  apply Go.WideShapes.bytes_inj
  rw [Lib.extract_data]
  show (List.drop a (List.replicate n (0 : UInt8)).toArray.toList).take (b - a) = _
  unfold zeros
  simp only [List.drop_replicate, List.take_replicate]
  congr 1
  omega
theorem pad_cut (t : ByteArray) (h : t.size ≤ 64) : t ++ (zeros 64).extract t.size 64 = pad t := by
  rw [zeros_cut t.size 64 h 64 (Nat.le_refl _)]
  rfl
theorem grown_set (w : World) (a : Addr) (v : Value) : w.grownBy (w.setCell a v) (some a.block) :=
  ⟨rfl, rfl, rfl, by simp, fun k _ hk => Below.heap_setCell w a v k (fun e => hk (by rw [e]))⟩
theorem grown_drew {w w' : World} {r : Option Nat} (h : w.grownBy w' r) : w.grownBy w'.drew r := ⟨h.os, h.tape, h.output, h.size, h.block⟩
theorem tx_drew {w : World} {g o c : Nat} {l : List ByteArray} (h : TxAt w g o c l) : TxAt w.drew g o c l := h.keep rfl
theorem T0_eq : updT (fun _ => [zeros 64]) 1 [pad xb] = T0 := by
  funext k
  unfold updT T0
  rfl

theorem flush_less (D : SD) : D.flush.2.loose.length ≤ D.loose.length := by
  unfold SD.flush
  split
  · exact Nat.le_refl _
  · simp
theorem write_less (D : SD) (a : Int) (t : ByteArray) : (D.write a t).2.loose.length ≤ D.loose.length + 1 := by
  unfold SD.write
  split
  · simp
  · split
    · simp
    · split
      · simp
      · simp [(burn_seen D).2.2]
theorem write_bad (D : SD) (a : Int) (t : ByteArray) (h : (D.write a t).1 ≠ 0) : (D.write a t).2 = D := by
  unfold SD.write at h ⊢
  split
  · rfl
  · split
    · rfl
    · split
      · rfl
      · rename_i h1 h2 h3
        rw [if_neg h1, if_neg h2, if_neg h3] at h
        simp at h
theorem write_fits (D : SD) (a : Int) (t : ByteArray) (h : (D.write a t).1 = 0) : t.size ≤ 64 := by
  unfold SD.write at h
  split at h
  · simp at h
  · split at h
    · simp at h
    · omega
theorem flush_bad (D : SD) (h : D.flush.1 ≠ 0) : D.flush.2 = D := by
  unfold SD.flush at h ⊢
  split
  · rfl
  · rename_i h1
    rw [if_neg h1] at h
    simp at h

theorem flush_code (D : SD) : D.flush.1 = 0 ∨ D.flush.1 = 13 := by
  unfold SD.flush
  split
  · exact .inr rfl
  · exact .inl rfl

/-- append of one text, as a step of a region that draws its order. -/
theorem step_append_tx {ops : Array Oper} {o : Oper} {a : Act} {w : World} {K : Act → World → Prop} {Q : Exit → Act → World → Prop} {E : Prop} (hgd : o.guard = none) (s x : Operand)
    (ho : o.op = .call { callee := .builtin .append, args := #[s, x], argTypes := #[40, 40] }) (g off c : Nat) (l : List ByteArray) (h : TxAt w g off c l) (n : Nat) (hn : n = l.length) (t : ByteArray) (b : Nat)
    (hb : w.heap[b]? = some (.cells #[.string t] 9 (0, 0))) (hroom : ((l.length + 1) + (l.length + 1) / 4 + 192) * 16 ≤ 281474976710656) (hs : a.eval s = .slice (some ⟨g, off, none⟩) n c) (hx : a.eval x = .slice (some ⟨b, 0, none⟩) 1 1)
    (hK : ∀ g' o' c' w', TxAt w' g' o' c' (l ++ [t]) → w.grownBy w' (some g) → (g' = g ∨ g' = w.heap.size) → K (a.put o.dst (.slice (some ⟨g', o', none⟩) (n + 1) c')) w') :
    if Region.wanted o (yielded ops a.tmps) = true then Oper.wp Try.prog o a w K Q else E := by
  have hw : Region.wanted o (yielded ops a.tmps) = true := by simp [Region.wanted, hgd]
  rw [if_pos hw]
  subst hn
  obtain ⟨g', o', c', w', hr, h2, h3, h4⟩ := run_append_tx w o.type g off c l h t b hb hroom
  unfold Oper.wp execOp
  simp only [ho, resolve, invoke, builtin, Sem.run_bind, Sem.run_pure, Result.andThen_ok, List.map_toArray, List.map_cons, List.map_nil, hs, hx, hr]
  exact hK g' o' c' w' h2 h3 h4

set_option maxHeartbeats 4000000 in
theorem safe_walk (w : World) (da : Option Addr) (dc : Nat) (X : List Dd) (hX : DeedsAt w da X) (hXn : X.length * 56 ≤ 140737488355328) (hXi : ∀ x ∈ X, x.n ≤ 9223372036854775807)
    (ka : Option Addr) (kc : Nat) (K : List Bool) (hK : KeepAt w ka K) :
    Calls Try.prog 5 #[.slice da X.length dc, .slice ka K.length kc] w fun e w' => e = .returned (.bool true) ∧ Below w.heap.size w w' := by
  have H1 := hid (new_any w 4 ⟨by omega, by omega⟩)
  have HX := hid hX
  have HXi := hid hXi
  have HK := hid hK
  clear hX hXi hK
  go_enter Try.func5, Try.ntmps5
  go_wp2_with fail
  refine H1.out.mono ?_
  rintro r w1 ⟨p, rfl, h1, g1⟩
  have H2 := hid (write_any w1 p (SD.fresh 4) h1 1 xb (by show (0 + 1 + (0 + 1) / 4 + 192) * 72 ≤ _; omega))
  rw [D1_code] at H2
  have G1 := hid g1
  clear h1 g1
  go_wp2_with fail
  refine H2.out.mono ?_
  rintro r w2 ⟨p2, hp2, rfl, h2, g2⟩
  have H3 := flush_any w2 p2 D1 h2
  rw [D2_code, hp2] at H3
  have H3' := hid H3
  have G2 := hid (G1.out.trans g2)
  have HP2 := hid hp2
  clear h2 g2 H3 hp2 G1
  go_wp2_with fail
  refine H3'.out.mono ?_
  rintro r w3 ⟨p3, hp3, rfl, h3, g3⟩
  have h3' : Hid (DiskAt w3 p3 D2) := h3
  have G3 := hid (G2.out.trans g3)
  have HP3 : Hid (p3.b = p.b) := hp3
  clear h3 g3 hp3 G2
  have HR := hid fun W => repeat_any 64 (by omega) W
  go_wp2_with fail
  refine (HR.out _).mono ?_
  rintro r w4 ⟨rfl, hb4⟩
  have HB4 := hid hb4
  clear hb4
  have S4 : Hid (Sf w p.b w3.heap.size 0 D2 (fun _ => [zeros 64]) w4) := by
    have := Sf.start (fun _ => [zeros 64]) h3'.out G3.out
    rw [HP3.out] at this
    exact this.on HB4.out
  clear HB4 h3' G3 HP3 HP2
  generalize p.b = pb at *
  generalize w3.heap.size = mb at *
  generalize hz : zeros 64 = z at *
  have hzs : z.size = 64 := by rw [← hz]; exact zeros_size 64
  have HZ := hid hz
  clear hz
  clear H1 H2 H3' HR
  go_wp2_with fail
  go_loopw [38] (fun i wr => ∃ k : Nat, k ≤ 4 ∧ i = .int .i64 k ∧ Hid (Sf w pb mb k D2 (fun _ => [z]) wr)) (fun i _ => 4 - (intOf i).toNat)
  case atStart => exact ⟨0, Nat.zero_le _, rfl, S4⟩
  case round =>
    clear S4
    obtain ⟨k, hk, rfl, hs⟩ := hrel
    by_cases hlt : k < 4
    · obtain ⟨n1, n2, n3⟩ := hs.out.nil k (Nat.le_refl _) hlt
      have n1a : ∀ o, (wr.alloc o).cell? ⟨mb, k, none⟩ = some (.slice none 0 0) := fun o => by rw [World.cell?_alloc_past _ _ _ n3]; exact n1
      have n2a : ∀ o, (wr.alloc o).frozen? ⟨mb, k, none⟩ = false := fun o => by rw [World.frozen?_alloc_past _ _ _ n3]; exact n2
      have nx0 := hs.out.lay hlt z rfl
      rw [World.setCell_alloc_past _ _ _ _ n3] at nx0
      have nx := hid nx0
      have k0 : (0 : Int) ≤ (k : Int) := by omega
      have k1 : (k : Int) < 4 := by omega
      clear n1 n2 nx0
      go_wp2_with fail
      go_roundw
      case rel => exact ⟨k + 1, by omega, by go_num, nx.out⟩
      case measure => simp [intOf]; omega
    · obtain rfl : k = 4 := by omega
      obtain ⟨g, o, c, q1, q2, q3, q4, q5, q6, q7, q8, q9⟩ := hs.out.one 1 (by omega) (by omega)
      have q1' : wr.cell? ⟨mb, 1, none⟩ = some (.slice (some ⟨g, o, none⟩) 1 c) := q1
      have q3' := q3.cell 0 z rfl
      rw [Nat.add_zero] at q3'
      have q3f := q3.fz o
      have Q9 := hid q9
      have Q3 := hid q3
      clear q1 q3 q8 q9 hk
      go_wp2_with fail
      go_region
      have S5 : Hid (Sf w pb mb 4 D2 T0 (wr.setCell ⟨g, o, none⟩ (.string (⟨#[120]⟩ ++ z.extract 1 64))).drew) := by
        have e : (⟨#[120]⟩ ++ z.extract 1 64 : ByteArray) = pad xb := by rw [← HZ.out]; exact pad_cut xb (by show 1 ≤ 64; omega)
        rw [e, ← T0_eq, HZ.out]
        exact Q9.out [pad xb] _ (grown_drew (grown_set wr ⟨g, o, none⟩ _)) (tx_drew (Q3.out.set0 (pad xb))) rfl
      generalize (wr.setCell ⟨g, o, none⟩ (.string (⟨#[120]⟩ ++ z.extract 1 64))).drew = w5 at *
      clear Q9 Q3 q3' q3f q1' q2 q4 q5 q6 q7 hs
      go_wp2_with fail
      go_loopw [54] (fun v W => ∃ (i : Nat) (D : SD) (T : Nat → List ByteArray), i ≤ X.length ∧ v = .int .i64 i ∧ Hid (MayBe D T ∧ D.loose.length ≤ i ∧ ∀ k, k < 4 → (T k).length ≤ i + 1) ∧ Hid (Sf w pb mb 4 D T W)) (fun v _ => X.length - (intOf v).toNat)
      case atStart => exact ⟨0, D2, T0, Nat.zero_le _, rfl, ⟨D2_may, by rw [D2_loose]; simp, fun k _ => by unfold T0; split <;> simp⟩, S5⟩
      case round =>
        clear S5
        obtain ⟨i, D, T, hi, rfl, hm, hs⟩ := hrel
        by_cases hlt : i < X.length
        · obtain ⟨⟨xk, xn, xt, pa, pl, pc⟩, hx⟩ : ∃ x, X[i]? = some x := ⟨_, List.getElem?_eq_getElem hlt⟩
          obtain ⟨db, off, hda, hdc⟩ := HX.out (by intro e; rw [e] at hlt; simp at hlt)
          subst hda
          obtain ⟨d0, d1, d2, d3⟩ := hdc i _ hx
          have hdl := World.block_lt_of_cell? w _ d0
          have hol := hs.out.old
          have d0 : wr.cell? ⟨db, off + i * 4, none⟩ = some (.int .i64 xk) := (hol.cell (p := ⟨db, off + i * 4, none⟩) hdl).trans d0
          have d1 : wr.cell? ⟨db, off + i * 4 + 1, none⟩ = some (.int .i64 xn) := (hol.cell (p := ⟨db, off + i * 4 + 1, none⟩) hdl).trans d1
          have d2 : wr.cell? ⟨db, off + i * 4 + 2, none⟩ = some (.string xt) := (hol.cell (p := ⟨db, off + i * 4 + 2, none⟩) hdl).trans d2
          have d3 : wr.cell? ⟨db, off + i * 4 + 3, none⟩ = some (.slice pa pl pc) := (hol.cell (p := ⟨db, off + i * 4 + 3, none⟩) hdl).trans d3
          have hxi : xn ≤ 9223372036854775807 := HXi.out _ (List.mem_of_getElem? hx)
          clear hdc hx hol
          have i0 : (0 : Int) ≤ (i : Int) := by omega
          have i1 : (i : Int) < X.length := by omega
          obtain ⟨k, hk⟩ : ∃ k : Nat, xn % 4 = k := ⟨(xn % 4).toNat, by omega⟩
          have hk4 : k < 4 := by omega
          have HR := hid fun W => rest4_any xn W
          rw [hk] at HR
          clear hk
          have S1 : Hid (Sf w pb mb 4 D T (wr.alloc (.cells #[.int .i64 xk, .int .i64 xn, .string xt, .slice pa pl pc] 44))) := hs.out.alloc _
          have xh : (wr.alloc (.cells #[.int .i64 xk, .int .i64 xn, .string xt, .slice pa pl pc] 44)).heap[wr.heap.size]? = some (.cells #[.int .i64 xk, .int .i64 xn, .string xt, .slice pa pl pc] 44 (0, 0)) := heap_alloc_new wr _
          have xo : Hid (∀ p : DP, DiskAt wr p D → ¬ p.own wr.heap.size) := fun p hd e => by have := hd.own_lt _ e; omega
          have XH := hid xh
          clear xh
          by_cases c2 : xk = 2
          · subst c2
            obtain ⟨p, hp, hd, _, nx⟩ := S1.out.part
            have HF := flush_any _ p D hd
            rw [hp] at HF
            rcases flush_code D with hf | hf
            · rw [hf] at HF
              have HF' := hid HF
              have NX := hid nx
              have HP := hid hp
              clear HF nx hd hp
              go_wp2_with fail
              refine (HR.out _).mono ?_
              rintro r w6 ⟨rfl, rfl⟩
              go_wp2_with fail
              refine HF'.out.mono ?_
              rintro r w7 ⟨p', hp', rfl, hd', g'⟩
              have S7 : Hid (Sf w pb mb 4 D.flush.2 T w7) := NX.out p' _ w7 (hp'.trans HP.out.symm) hd' g'
              clear hd' g' hp' NX HP HF' HR S1 XH xo hs d0 d1 d2 d3
              go_wp2_with fail
              go_loopw [68] (fun v W => ∃ (j : Nat) (T' : Nat → List ByteArray), j ≤ 4 ∧ v = .int .i64 j ∧ Hid (∀ k, k < 4 → T' k = if k < j then [at4 D.seen k] else T k) ∧ Hid (Sf w pb mb 4 D.flush.2 T' W)) (fun v _ => 4 - (intOf v).toNat)
              case atStart => exact ⟨0, T, Nat.zero_le _, rfl, fun k _ => by rw [if_neg (by omega)], S7⟩
              case round =>
                clear S7
                obtain ⟨j, T', hj, rfl, hT, hs⟩ := hrel
                by_cases hj4 : j < 4
                · obtain ⟨g, o, c, q1, q2, q3, q4, q5, q6, q7, q8, q9⟩ := hs.out.one j hj4 hj4
                  have hl := hm.out.1.last j hj4
                  have hTj : T' j = T j := by rw [hT.out j hj4, if_neg (by omega)]
                  rw [← hTj] at hl
                  have hpos : (T' j).length - 1 < (T' j).length := (List.getElem?_eq_some_iff.1 hl).1
                  have hcap := q3.len
                  have hcm : c ≤ 9223372036854775807 := by have := q3.cap; unfold maxLen at this; omega
                  have NX := hid (q8 g (o + ((T' j).length - 1)) (c - ((T' j).length - 1)) [at4 D.seen j] wr.drew ⟨rfl, rfl, rfl, Nat.le_refl _, fun _ _ _ => rfl⟩ (tx_drew (q3.last _ hl)) (.inl rfl))
                  have TX : Hid (∀ k, k < 4 → updT T' j [at4 D.seen j] k = if k < j + 1 then [at4 D.seen k] else T k) := fun k hk => by
                    unfold updT
                    by_cases e : k = j
                    · rw [if_pos e, if_pos (by omega), e]
                    · rw [if_neg e, hT.out k hk]
                      have : k < j ↔ k < j + 1 := by omega
                      simp only [this]
                  obtain ⟨L, hL⟩ : ∃ L, (T' j).length = L + 1 := ⟨(T' j).length - 1, by omega⟩
                  rw [hL, Nat.add_sub_cancel] at NX
                  rw [hL] at q1 hcap
                  have j0 : (0 : Int) ≤ (j : Int) := by omega
                  have j1 : (j : Int) < 4 := by omega
                  clear q3 q4 q5 q6 q7 q8 q9 hl hTj hpos hL hT hs
                  go_wp2_with fail
                  go_region
                  go_wp2_with fail
                  go_roundw
                  case rel => exact ⟨j + 1, updT T' j [at4 D.seen j], by omega, by go_num, TX.out, NX.out⟩
                  case measure => simp [intOf]; omega
                · obtain rfl : j = 4 := by omega
                  have HM : Hid (MayBe D.flush.2 T' ∧ D.flush.2.loose.length ≤ i + 1 ∧ ∀ k, k < 4 → (T' k).length ≤ i + 1 + 1) := by
                    have hT4 : ∀ k, k < 4 → T' k = [at4 D.seen k] := fun k hk => by rw [hT.out k hk, if_pos hk]
                    refine ⟨hm.out.1.flush hf hT4, ?_, fun k hk => ?_⟩
                    · have := flush_less D; have := hm.out.2.1; omega
                    · rw [hT4 k hk]; simp
                  clear hm hT
                  go_wp2_with fail
                  go_roundw
                  case rel => (repeat apply Exists.intro); exact ⟨⟨i + 1, D.flush.2, T', by omega, by go_num, HM.out, hs.out⟩, rfl⟩
                  case measure => simp [intOf]; omega
            · rw [hf] at HF
              have HF' := hid HF
              have NX := hid nx
              have HP := hid hp
              have HM : Hid (MayBe D T ∧ D.loose.length ≤ i + 1 ∧ ∀ k, k < 4 → (T k).length ≤ i + 1 + 1) := ⟨hm.out.1, by have := hm.out.2.1; omega, fun k hk => by have := hm.out.2.2 k hk; omega⟩
              clear HF nx hd hp hm
              go_wp2_with fail
              refine (HR.out _).mono ?_
              rintro r w6 ⟨rfl, rfl⟩
              go_wp2_with fail
              refine HF'.out.mono ?_
              rintro r w7 ⟨p', hp', rfl, hd', g'⟩
              have S7 : Hid (Sf w pb mb 4 D T w7) := by
                have e := flush_bad D (by rw [hf]; omega)
                rw [e] at hd'
                exact NX.out p' _ w7 (hp'.trans HP.out.symm) hd' g'
              clear hd' g' hp' NX HP HF' HR S1 XH xo hs d0 d1 d2 d3
              go_wp2_with fail
              go_roundw
              case rel => (repeat apply Exists.intro); exact ⟨⟨i + 1, D, T, by omega, by go_num, HM.out, S7.out⟩, rfl⟩
              case measure => simp [intOf]; omega
          · have n2 : (xk == 2) = false := by simpa using c2
            by_cases c3 : xk = 3
            · subst c3
              obtain ⟨p, hp, hd, _, nx⟩ := S1.out.part
              have HF := fuse_any _ p D hd xn hxi
              rw [hp] at HF
              have HF' := hid HF
              have NX := hid nx
              have HP := hid hp
              have HM : Hid (MayBe (D.fuse xn) T ∧ (D.fuse xn).loose.length ≤ i + 1 ∧ ∀ k, k < 4 → (T k).length ≤ i + 1 + 1) := ⟨hm.out.1.fuse xn, by have := hm.out.2.1; show D.loose.length ≤ _; omega, fun k hk => by have := hm.out.2.2 k hk; omega⟩
              clear HF nx hd hp hm
              go_wp2_with fail
              refine (HR.out _).mono ?_
              rintro r w6 ⟨rfl, rfl⟩
              go_wp2_with fail
              refine HF'.out.mono ?_
              rintro r w7 ⟨rfl, hd', g'⟩
              have S7 : Hid (Sf w pb mb 4 (D.fuse xn) T w7) := NX.out p _ w7 rfl hd' g'
              clear hd' g' NX HP HF' HR S1 XH xo hs d0 d1 d2 d3
              go_wp2_with fail
              go_roundw
              case rel => (repeat apply Exists.intro); exact ⟨⟨i + 1, D.fuse xn, T, by omega, by go_num, HM.out, S7.out⟩, rfl⟩
              case measure => simp [intOf]; omega
            · have n3 : (xk == 3) = false := by simpa using c3
              obtain ⟨p, hp, hd, _, nx⟩ := S1.out.part
              have hml := hm.out.2.1
              have HF := write_any _ p D hd k xt (by omega)
              rw [hp] at HF
              by_cases hw : (D.write k xt).1 = 0
              · rw [hw] at HF
                clear HF nx hd hp
                obtain ⟨p, hp, hd, _, nx⟩ := hs.out.part
                have HF := write_any _ p D (hd.alloc (.cells #[.int .i64 xk, .int .i64 xn, .string xt, .slice pa pl pc] 44)) k xt (by omega)
                rw [hp, hw] at HF
                have HF' := hid HF
                have NX := hid nx
                have HP := hid hp
                have XO := hid (xo.out p hd)
                have xsz := write_fits D k xt hw
                have HM : Hid (MayBe (D.write k xt).2 (updT T k (T k ++ [pad xt])) ∧ (D.write k xt).2.loose.length ≤ i + 1 ∧ ∀ j, j < 4 → (updT T k (T k ++ [pad xt]) j).length ≤ i + 1 + 1) := by
                  refine ⟨hm.out.1.write k hk4 xt hw (fun j => rfl), ?_, fun j hj => ?_⟩
                  · have := write_less D k xt; omega
                  · have h1 := hm.out.2.2 j hj
                    have h2 := hm.out.2.2 k hk4
                    unfold updT
                    split
                    · simp; omega
                    · omega
                have hTl : (T k).length ≤ i + 1 := hm.out.2.2 k hk4
                clear HF nx hd hp hm
                go_wp2_with fail
                refine (HR.out _).mono ?_
                rintro r w6 ⟨rfl, rfl⟩
                go_wp2_with fail
                refine HF'.out.mono ?_
                rintro r w7 ⟨p', hp', rfl, hd', g'⟩
                have S7 : Sf w pb mb 4 (D.write k xt).2 T w7 := NX.out p' _ w7 (hp'.trans HP.out.symm) hd' (((Goes.refl _ wr).alloc _).trans g')
                have xh : w7.heap[wr.heap.size]? = some (.cells #[.int .i64 xk, .int .i64 xn, .string xt, .slice pa pl pc] 44 (0, 0)) := (g'.block wr.heap.size (by simp) XO.out).trans XH.out
                have xlt := lt_of_heap xh
                have x2 : w7.cell? ⟨wr.heap.size, 2, none⟩ = some (.string xt) := by rw [cell_of_row w7 _ _ _ _ _ xh]; rfl
                have x2a : ∀ o, (w7.alloc o).cell? ⟨wr.heap.size, 2, none⟩ = some (.string xt) := fun o => by rw [World.cell?_alloc_past _ _ _ xlt]; exact x2
                obtain ⟨g, o, c, q1, q2, q3, q4, q5, q6, q7, q8, q9⟩ := S7.one k hk4 hk4
                have q1a : ∀ b, (w7.alloc b).cell? ⟨mb, k, none⟩ = some (.slice (some ⟨g, o, none⟩) (T k).length c) := fun b => by rw [World.cell?_alloc_past _ _ _ q6]; exact q1
                obtain ⟨u, hu⟩ : ∃ u, u = xt ++ z.extract xt.size 64 := ⟨_, rfl⟩
                have hup : u = pad xt := by rw [hu, ← HZ.out]; exact pad_cut xt xsz
                have TX : Hid (TxAt (w7.alloc (.cells #[.string u] 9)).drew g o c (T k)) := tx_drew (q3.keep (Below.heap_alloc w7 _ g q3.lt))
                have BX : Hid ((w7.alloc (.cells #[.string u] 9)).drew.heap[w7.heap.size]? = some (.cells #[.string u] 9 (0, 0))) := heap_alloc_new w7 _
                have FIN : Hid (∀ (g' o' c' : Nat) (w8 : World), TxAt w8 g' o' c' (T k ++ [u]) → (w7.alloc (.cells #[.string u] 9)).drew.grownBy w8 (some g) → (g' = g ∨ g' = (w7.alloc (.cells #[.string u] 9)).drew.heap.size) →
                    w8.cell? ⟨mb, k, none⟩ = some (.slice (some ⟨g, o, none⟩) (T k).length c) ∧ w8.frozen? ⟨mb, k, none⟩ = false ∧ Hid (Sf w pb mb 4 (D.write k xt).2 (updT T k (T k ++ [pad xt])) (w8.setCell ⟨mb, k, none⟩ (.slice (some ⟨g', o', none⟩) ((T k).length + 1) c')))) := by
                  intro g' o' c' w8 a1 a2 a3
                  have hblk : w8.heap[mb]? = w7.heap[mb]? := (a2.block mb (by simp; omega) (fun e => q4 (by injection e with e; exact e.symm))).trans (Below.heap_alloc w7 _ mb q6)
                  refine ⟨(World.cell?_of_block (w := w7) (a := ⟨mb, k, none⟩) hblk).trans q1, (World.frozen?_of_block (w := w7) (a := ⟨mb, k, none⟩) hblk).trans q2, ?_⟩
                  have b1 : w7.grownBy w8 (some g) := (grown_drew (World.grownBy_alloc w7 (.cells #[.string u] 9) (some g))).trans a2
                  have := q8 g' o' c' (T k ++ [u]) w8 b1 a1 (by rcases a3 with e | e; exact .inl e; right; rw [e]; simp)
                  rw [List.length_append, hup] at this
                  exact this
                clear hup
                subst hu
                have k0 : (0 : Int) ≤ (k : Int) := by omega
                have k1 : (k : Int) < 4 := by omega
                have x64 : ((xt.size : Nat) : Int) ≤ 64 := by omega
                clear q3 q4 q5 q7 q8 q9 S7 hd' g' hp' NX HP HF' HR S1 XH xo hs d0 d1 d2 d3 XO xh
                go_wp2_with fail
                go_region_law ((refine step_append_tx (by rfl) _ _ (by rfl) g o c (T k) TX.out (T k).length rfl (xt ++ z.extract xt.size 64) w7.heap.size BX.out (by omega) (by rfl) (by rfl) ?_; intro g' o' c' w8 a1 a2 a3; obtain ⟨r1, r2, r3⟩ := FIN.out g' o' c' w8 a1 a2 a3; clear a1 a2 a3))
                all_goals (go_wp2_with fail; go_roundw; (case rel => ((repeat apply Exists.intro); exact ⟨⟨i + 1, _, _, by omega, by go_num, HM.out, r3.out⟩, rfl⟩)); (case measure => (simp [intOf]; omega)))
              · have HM : Hid (MayBe D T ∧ D.loose.length ≤ i + 1 ∧ ∀ k, k < 4 → (T k).length ≤ i + 1 + 1) := ⟨hm.out.1, by have := hm.out.2.1; omega, fun k hk => by have := hm.out.2.2 k hk; omega⟩
                rw [write_bad D k xt hw] at HF
                have hw' : ((D.write k xt).1 == 0) = false := by simpa using hw
                generalize (D.write k xt).1 = cd at HF hw'
                have HF' := hid HF
                have NX := hid nx
                have HP := hid hp
                clear HF nx hd hp hm hw
                go_wp2_with fail
                refine (HR.out _).mono ?_
                rintro r w6 ⟨rfl, rfl⟩
                go_wp2_with fail
                refine HF'.out.mono ?_
                rintro r w7 ⟨p', hp', rfl, hd', g'⟩
                have S7 : Hid (Sf w pb mb 4 D T w7) := NX.out p' _ w7 (hp'.trans HP.out.symm) hd' g'
                clear hd' g' hp' NX HP HF' HR S1 XH xo hs d0 d1 d2 d3
                go_wp2_with fail
                go_roundw
                case rel => (repeat apply Exists.intro); exact ⟨⟨i + 1, D, T, by omega, by go_num, HM.out, S7.out⟩, rfl⟩
                case measure => simp [intOf]; omega
        · have j1 : decide ((i : Int) < (X.length : Int)) = false := by simp; omega
          have j2 : decide (i < X.length) = false := by simp; omega
          obtain ⟨p, hp, hd, hn1, nx⟩ := hs.out.part
          have hol := hs.out.old
          have hK' : KeepAt wr ka K := fun hne => by
            obtain ⟨kb, ko, e, hc⟩ := HK.out hne
            refine ⟨kb, ko, e, fun j b hj => ?_⟩
            exact (hol.cell (p := ⟨kb, ko + j, none⟩) (HK.out.lt hne kb ko e)).trans (hc j b hj)
          have hKn : K ≠ [] → ∀ kb ko, ka = some ⟨kb, ko, none⟩ → ¬ p.own kb := fun hne kb ko e ho => by
            have a1 := HK.out.lt hne kb ko e
            have a2 := hn1 kb ho
            omega
          have HC := crash_any wr p D hd ka kc K hK' hKn (by have := hm.out.2.1; omega)
          rw [hp] at HC
          have HC' := hid HC
          have NX := hid nx
          have HP := hid hp
          have MB := hid (fun k hk => hm.out.1.crash hs.out.ok K k hk)
          have N4 : Hid ((D.crash K).n = 4) := by
            show (after D.loose K D.safe D.loose.length).length = 4
            rw [after_len, hs.out.ok.len]
            exact hm.out.1.n4
          clear HC nx hd hp hm hn1 hol hK' hKn
          go_wp2_with fail
          refine HC'.out.mono ?_
          rintro r w6 ⟨p', hp', rfl, hd', g'⟩
          have S6 : Hid (Sf w pb mb 4 (D.crash K) T w6) := NX.out p' _ w6 (hp'.trans HP.out.symm) hd' g'
          clear hd' g' hp' NX HP HC' hs
          go_wp2_with fail
          go_loopw [117] (fun v W => ∃ k : Nat, k ≤ 4 ∧ v = .int .i64 k ∧ W = w6) (fun v _ => 4 - (intOf v).toNat)
          case atStart => exact ⟨0, Nat.zero_le _, rfl, rfl⟩
          case round =>
            obtain ⟨k, hk, rfl, rfl⟩ := hrel
            by_cases hk4 : k < 4
            · obtain ⟨p, hp, hd, _, _⟩ := S6.out.part
              have HRd := read_any _ p (D.crash K) hd k
              have e1 : (D.crash K).read k = (at4 (D.crash K).seen k, 0) := by
                unfold SD.read
                rw [if_pos ⟨by omega, by rw [N4.out]; omega⟩, if_neg (by simp [SD.down, SD.crash])]
                rfl
              rw [hp, e1] at HRd
              obtain ⟨g, o, c, q1, q2, q3, q4, q5, q6, q7, q8, q9⟩ := S6.out.one k hk4 hk4
              have HCt := hid (contains_any _ g o c (T k) q3 (at4 (D.crash K).seen k) (MB.out k hk4))
              have HRd' := hid HRd
              have k0 : (0 : Int) ≤ (k : Int) := by omega
              have k1 : (k : Int) < 4 := by omega
              clear HRd e1 hd hp q2 q3 q4 q5 q6 q7 q8 q9
              go_wp2_with fail
              refine HRd'.out.mono ?_
              rintro r w7 ⟨rfl, rfl⟩
              go_wp2_with fail
              refine HCt.out.mono ?_
              rintro r w7 ⟨rfl, rfl⟩
              go_wp2_with fail
              go_roundw
              case rel => exact ⟨k + 1, by omega, by go_num, trivial⟩
              case measure => simp [intOf]; omega
            · obtain rfl : k = 4 := by omega
              have OL := hid S6.out.old
              clear S6
              go_wp2_with fail
              go_ret
              exact ⟨rfl, OL.out⟩

end Go.Proofs.Ytbemaiiloljocaf
