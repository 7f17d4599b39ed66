/- A log on a disk: find, walked. -/
import Derived.Test.YthfpinjegfgeiaaWalRead
import Derived.Lib.SliceRun
import Derived.Deep.QuietTactic
import Derived.BigQuiet
import Derived.WalkSmall
namespace Go.Proofs.Ythfpinjegfgeiaa
open Go Go.RowKit
set_option maxRecDepth 100000

theorem TxAt.tail {w : World} {g o c : Nat} {l : List ByteArray} (h : TxAt w g o c l) (k : Nat) (hk : k ≤ l.length) : TxAt w g (o + k) (c - k) (l.drop k) := by
  obtain ⟨cur, hg, hc, hv⟩ := h.row
  have := h.len
  refine ⟨by rw [List.length_drop]; omega, by have := h.cap; omega, cur, hg, by omega, fun j t hj => ?_⟩
  rw [List.getElem?_drop] at hj
  rw [Nat.add_assoc]
  exact hv _ _ hj

def txts (R : List Wl.Rec) : List ByteArray := R.map fun r => ba r.text
theorem txts_len (R : List Wl.Rec) : (txts R).length = R.length := by unfold txts; rw [List.length_map]
def LG.at_ (G : LG) (R : List Wl.Rec) : LG := { G with count := R.length, used := 1 + Wl.sizes R }

/-- How it stands when the records R have been found. -/
structure FindAt (w wr : World) (lb : Nat) (p : DP) (D : SD) (G : LG) (g c : Nat) (l : List ByteArray) (v : Value) (R : List Wl.Rec) (m : List (List UInt8)) : Prop where
  wal : WalAt wr lb p D (G.at_ R)
  tx : TxAt wr g 0 c l
  chain : Wl.Chain (G.epoch : Int) 0 0 ((lists l).drop 1) R m
  row : wr.ownsRow w.heap.size 9 1 v (txts R).length ((txts R).map Value.string)
  goes : Goes (fun k => k = lb) w wr (fun k => k = lb)
  old : ∀ k, wown p lb k → k < w.heap.size
  gw : g < w.heap.size
  gf : ¬ wown p lb g

theorem lists_len (l : List ByteArray) : (lists l).length = l.length := by unfold lists; rw [List.length_map]
theorem lists_drop (l : List ByteArray) (k : Nat) : lists (l.drop k) = (lists l).drop k := by unfold lists; rw [List.map_drop]

section
variable {w wr : World} {lb : Nat} {p : DP} {D : SD} {G : LG} {g c : Nat} {l : List ByteArray} {v : Value} {R : List Wl.Rec} {m : List (List UInt8)} (h : FindAt w wr lb p D G g c l v R m)
include h
theorem FindAt.rest (hl : l.length = G.n) (h2 : 2 ≤ G.n) : m = lists (l.drop (1 + Wl.sizes R)) ∧ 1 + Wl.sizes R ≤ l.length ∧ R.length ≤ Wl.sizes R := by
  obtain ⟨a, b, c⟩ := h.chain.drop
  rw [List.length_drop, lists_len] at a
  refine ⟨by rw [b, List.drop_drop, lists_drop], by omega, c⟩
/-- Nothing of it has turned. -/
theorem FindAt.below {W : World} (hb : Below wr.heap.size wr W) : FindAt w W lb p D G g c l v R m :=
  ⟨h.wal.below hb, h.tx.keep (hb.block g h.tx.lt), h.chain, ownsRow_of_block h.row (fun k hk => hb.block k (h.row.lt k hk).2), h.goes.trans (Goes.below' hb), h.old, h.gw, h.gf⟩
/-- One more record. -/
theorem FindAt.next {W4 W5 W7 : World} {r : Wl.Rec} (hl : l.length = G.n) (h2 : 2 ≤ G.n) (hg : Wl.getRec m (R.length : Int) = some r) (h1 : Wl.lastEp 0 R ≤ r.epoch) (h3 : r.epoch ≤ (G.epoch : Int)) (hb : Below wr.heap.size wr W4) {v' : Value}
    (hown : W5.ownsRow w.heap.size 9 1 v' ((txts R).length + 1) ((txts R).map Value.string ++ [.string (ba r.text)])) (hgrow : W4.grownBy W5 v.ownBlock)
    (hW : W7 = ((W5.setCell ⟨lb, 4, none⟩ (.int .i64 ((R.length + 1 : Nat) : Int))).setCell ⟨lb, 5, none⟩ (.int .i64 ((1 + Wl.sizes R + r.size : Nat) : Int)))) :
    FindAt w W7 lb p D G g c l v' (R ++ [r]) (m.drop r.size) := by
  have h4 := h.below hb
  have hrow : ∀ k, v.ownBlock = some k → w.heap.size ≤ k := fun k hk => (h4.row.lt k hk).1
  have hkeep : ∀ k, k < w.heap.size → W5.heap[k]? = W4.heap[k]? := fun k hk => hgrow.block k (Nat.lt_of_lt_of_le hk h4.goes.size) (fun e => by have := hrow k e.symm; omega)
  have hw5 : WalAt W5 lb p D (G.at_ R) := h4.wal.keep fun k hk => hkeep k (h.old k hk)
  have hch : Wl.Chain (G.epoch : Int) 0 0 ((lists l).drop 1) (R ++ [r]) (m.drop r.size) := h.chain.trans (.cons (by simpa using hg) h1 h3 (.nil _ _ _))
  have e1 : (G.at_ (R ++ [r])) = { G.at_ R with count := R.length + 1, used := 1 + Wl.sizes R + r.size } := by
    unfold LG.at_
    simp only [List.length_append, List.length_cons, List.length_nil, Wl.sizes_app, Wl.sizes]
    congr 1
    omega
  obtain ⟨d1, d2, d3⟩ := hch.drop
  rw [List.length_drop, lists_len, Wl.sizes_app] at d1
  rw [Wl.sizes_app, List.length_append] at d3
  simp only [Wl.sizes, List.length_cons, List.length_nil] at d1 d3
  have hset := hw5.set (G' := { G.at_ R with count := R.length + 1, used := 1 + Wl.sizes R + r.size }) ⟨hw5.ok.n2, hw5.ok.fit, hw5.ok.top, by show R.length + 1 < 1 + Wl.sizes R + r.size; omega, by show 1 + Wl.sizes R + r.size ≤ G.n; omega⟩ (hw5.cell45 (R.length + 1) (1 + Wl.sizes R + r.size))
  have hlb : lb < w.heap.size := h.old lb (.inr rfl)
  have hne : ∀ k, k ≠ lb → W7.heap[k]? = W5.heap[k]? := fun k hk => by
    rw [hW, Below.heap_setCell _ _ _ _ hk, Below.heap_setCell _ _ _ _ hk]
  have hgl : g ≠ lb := fun e => h.gf (.inr e)
  refine ⟨by rw [e1, hW]; exact hset.1, h4.tx.keep ((hne g hgl).trans (hkeep g h.gw)), hch, ?_, ?_, h.old, h.gw, h.gf⟩
  · have e2 : txts (R ++ [r]) = txts R ++ [ba r.text] := by unfold txts; rw [List.map_append]; rfl
    rw [e2, List.length_append, List.map_append]
    refine ownsRow_of_block hown (fun k hk => hne k (fun e => ?_))
    have := (hown.lt k hk).1
    omega
  · have g5 := h4.goes.grown hgrow (fun k hk => .inr (hrow k hk))
    rw [hW]
    exact (g5.setCell (q := ⟨lb, 4, none⟩) (.inl rfl) _).setCell (q := ⟨lb, 5, none⟩) (.inl rfl) _
end

theorem belo0 (w : World) (o : Obj) : Below w.heap.size w (w.alloc o).drew := ((Below.refl _ w).alloc (Nat.le_refl _) o).drew
theorem belo (w : World) {w1 : World} (h : Below w.heap.size w w1) {o : Obj} : Below w.heap.size w (w1.alloc o) := h.alloc h.size o

theorem owns_form {w : World} {base n : Nat} {v : Value} {xs : List Value} (h : w.ownsRow base 9 1 v n xs) : ∃ a c, v = .slice a n c := by
  rcases h.2 with ⟨h1, h2⟩ | ⟨g, cap, cur, hv, _⟩
  · exact ⟨none, 0, by rw [h1, h2]⟩
  · exact ⟨_, _, hv⟩
theorem grown_keep {W w6 : World} {o ob : Obj} {k : Nat} {row : Option Nat} (h : W.heap[k]? = some ob) (hg : (W.alloc o).grownBy w6 row) (hr : row ≠ some k) : w6.heap[k]? = some ob := by
  have hk := lt_of_heap h
  rw [hg.block k (by simp; omega) (fun e => hr e.symm), Below.heap_alloc _ _ _ hk]
  exact h
theorem z_blk {wr w1 : World} {x0 x1 x2 : Value} {T : TypeId} (hb : Below ((wr.alloc (.cells #[x0, x1, x2] T)).drew).heap.size (wr.alloc (.cells #[x0, x1, x2] T)).drew w1) : w1.heap[wr.heap.size]? = some (.cells #[x0, x1, x2] T (0, 0)) :=
  (hb.block wr.heap.size (by simp)).trans (heap_alloc_new wr _)
theorem z_cell {w1 : World} {b : Nat} {x0 x1 x2 : Value} {T : TypeId} (h : w1.heap[b]? = some (.cells #[x0, x1, x2] T (0, 0))) (i : Nat) : w1.cell? ⟨b, i, none⟩ = #[x0, x1, x2][i]? := by rw [cell_of_row w1 _ _ _ _ _ h]
theorem z_froz {w1 : World} {b : Nat} {x0 x1 x2 : Value} {T : TypeId} (h : w1.heap[b]? = some (.cells #[x0, x1, x2] T (0, 0))) (i : Nat) : w1.frozen? ⟨b, i, none⟩ = false := by simp [World.frozen?, h]

set_option maxHeartbeats 4000000 in
theorem find_any (w : World) (lb : Nat) (p : DP) (D : SD) (G : LG) (h : WalAt w lb p D (G.at_ [])) (g : Nat) (l : List ByteArray) (htx : TxAt w g 0 l.length l) (hfar : ¬ wown p lb g) (h64 : ∀ s ∈ l, s.size = 64) (hl : l.length = G.n) :
    Calls Try.prog 61 #[.pointer (some ⟨lb, 0, none⟩), .slice (some ⟨g, 0, none⟩) l.length l.length] w fun e w' =>
      ∃ v R m, e = .returned v ∧ FindAt w w' lb p D G g l.length l v R m ∧ Wl.Ends (G.epoch : Int) (Wl.lastEp 0 R) R.length m := by
  have hn2 : 2 ≤ G.n := h.ok.n2
  have hfit : G.frm + G.n ≤ 256 := h.ok.fit
  have htop : G.epoch ≤ 1000000 := h.ok.top
  have F0 : Hid (FindAt w w lb p D G g l.length l (.slice none 0 0) [] ((lists l).drop 1)) := ⟨h, htx, .nil _ _ _, World.ownsRow_nil _ _ _ _, Goes.refl _ _, h.own_lt, htx.lt, hfar⟩
  have H64 := hid h64
  have HF := hid hfar
  obtain ⟨i0, hi, hz0, hz1, hz2⟩ := info_parts tx_info
  have HLN := hid hl
  have hlb : l.length ≤ 256 := by omega
  clear h htx h64 hfar hl hfit
  go_enter Try.func61, Try.ntmps61
  go_wp2_with fail
  go_loopw [5, 6] (fun v a wr => ∃ (R : List Wl.Rec) (m : List (List UInt8)), a = .int .i64 (Wl.lastEp 0 R) ∧ Hid (FindAt w wr lb p D G g l.length l v R m) ∧ R.length ≤ 256) (fun v _ _ => 257 - (match v with | .slice _ n _ => n | _ => 0))
  case atStart => exact ⟨[], _, rfl, F0, by simp⟩
  case round =>
    clear F0
    obtain ⟨R, m, rfl, hr, hR⟩ := hrel
    obtain ⟨hm, hu, hRu⟩ := hr.out.rest HLN.out hn2
    have l4 : wr.cell? ⟨lb, 4, none⟩ = some (.int .i64 (R.length : Int)) := hr.out.wal.l4
    have l5 : wr.cell? ⟨lb, 5, none⟩ = some (.int .i64 ((1 + Wl.sizes R : Nat) : Int)) := hr.out.wal.l5
    have l4' : wr.drew.cell? ⟨lb, 4, none⟩ = some (.int .i64 (R.length : Int)) := hr.out.wal.drew.l4
    have l5' : wr.drew.cell? ⟨lb, 5, none⟩ = some (.int .i64 ((1 + Wl.sizes R : Nat) : Int)) := hr.out.wal.drew.l5
    have l5w : ∀ W : World, Below wr.heap.size wr W → W.cell? ⟨lb, 5, none⟩ = some (.int .i64 ((1 + Wl.sizes R : Nat) : Int)) := fun W hW => (hr.out.wal.below hW).l5
    have l4w : ∀ W : World, Below wr.heap.size wr W → W.cell? ⟨lb, 4, none⟩ = some (.int .i64 (R.length : Int)) := fun W hW => (hr.out.wal.below hW).l4
    have L4 := hid l4w
    have L5 := hid l5w
    have hlo := hr.out.chain.last_le (by omega)
    have hu' : ((1 + Wl.sizes R : Nat) : Int) ≤ 256 := by omega
    clear l4w l5w
    by_cases hend : 1 + Wl.sizes R = l.length
    · have hm0 : m = [] := by rw [hm, hend, List.drop_length]; rfl
      have EE : Hid (Wl.Ends (G.epoch : Int) (Wl.lastEp 0 R) R.length m) := fun r hr => by rw [hm0] at hr; cases hr
      rw [hend] at l5 l5' L5 hu'
      have KG := hid fun W => getRecord_none g 0 0 (R.length : Int) W
      clear hm hu hm0 hend hRu
      go_wp2_with fail
      go_region_held3 (fun W => W.cell? ⟨lb, 4, none⟩ = some (.int .i64 (R.length : Int)) ∧ W.cell? ⟨lb, 5, none⟩ = some (.int .i64 (l.length : Int)))
        (first | (go_split_ands; exact ⟨by assumption, by assumption⟩) | (go_split_ands; exact ⟨L4.out _ (belo wr B1.out), L5.out _ (belo wr B1.out)⟩) | (go_split_ands; exact ⟨L4.out _ (belo0 wr _), L5.out _ (belo0 wr _)⟩) | (go_split_ands; exact ⟨L4.out _ (below_three B1.out rfl _ _ _), L5.out _ (below_three B1.out rfl _ _ _)⟩))
        ((go_at_call 79; refine (KG.out _).mono ?_; rintro r w1 ⟨rfl, hb1⟩; have B1 : Hid (Below wr.heap.size wr w1) := (by first | exact below_tr (Below.refl _ wr).drew hb1 | exact below_tr (belo0 wr _) hb1); have m4 := L4.out w1 B1.out; have m5 := L5.out w1 B1.out; (try (have zb := z_blk hb1; have z0 := z_cell zb 0; have z1 := z_cell zb 1; have z2 := z_cell zb 2; have y0 := z_froz zb 0; have y1 := z_froz zb 1; have y2 := z_froz zb 2; have ZB := hid zb; clear zb; simp at z0 z1 z2)); clear hb1; simp only [recV]))
      all_goals first
        | (obtain ⟨W4, hW4⟩ : ∃ W4, W4 = w1.alloc (.cells #[.string ⟨#[]⟩, .int .i64 0, .int .i64 0] 104) := ⟨_, rfl⟩; rw [← hW4]; have B4 : Hid (Below wr.heap.size wr W4) := (by rw [hW4]; exact belo wr B1.out); clear hW4)
        | (obtain ⟨W4, hW4⟩ : ∃ W4, W4 = ((w1.setCell ⟨wr.heap.size, 0, none⟩ (.string ⟨#[]⟩)).setCell ⟨wr.heap.size, 1, none⟩ (.int .i64 0)).setCell ⟨wr.heap.size, 2, none⟩ (.int .i64 0) := ⟨_, rfl⟩; rw [← hW4]; have B4 : Hid (Below wr.heap.size wr W4) := (by rw [hW4]; exact below_three B1.out rfl _ _ _); clear hW4)
      all_goals (have FA : Hid (∀ n, FindAt w (W4.drewN n) lb p D G g l.length l u5 R m) := fun n => hr.out.below (below_drewN B4.out n))
      all_goals (go_wp2_with fail)
      all_goals (go_quiet (fail))
      all_goals (go_wp2_with fail)
      all_goals go_ret
      all_goals exact ⟨_, R, m, rfl, FA.out _, EE.out⟩
    · have hult : 1 + Wl.sizes R < l.length := by omega
      have htl := hr.out.tx.tail (1 + Wl.sizes R) hu
      have hdl : (l.drop (1 + Wl.sizes R)).length = l.length - (1 + Wl.sizes R) := List.length_drop
      have KG : Hid (∀ W : World, Below wr.heap.size wr W → Calls Try.prog 79 #[.slice (some ⟨g, 1 + Wl.sizes R, none⟩) (l.length - (1 + Wl.sizes R)) (l.length - (1 + Wl.sizes R)), .int .i64 (R.length : Int)] W fun r w' => r = .returned (recV (Wl.getRec m (R.length : Int))) ∧ Below W.heap.size W w') := fun W hW => by
        rw [hm]
        rw [Nat.zero_add] at htl
        have := getRecord_any g (1 + Wl.sizes R) (l.length - (1 + Wl.sizes R)) (R.length : Int) W (l.drop (1 + Wl.sizes R)) (htl.keep (hW.block g htl.lt)) (fun s hs => H64.out s (List.mem_of_mem_drop hs)) (by rw [hdl]; omega) (by unfold Wl.I64; omega)
        rw [hdl] at this
        exact this
      have hne1 : ¬ (l.length = 1 + Wl.sizes R) := by omega
      have hu0 : (0 : Int) ≤ ((1 + Wl.sizes R : Nat) : Int) := by omega
      have hu1 : ((1 + Wl.sizes R : Nat) : Int) ≤ (l.length : Int) := by omega
      have HM := hid hm
      have HU : Hid (1 + Wl.sizes R < l.length) := hult
      have l3w : Hid (∀ W : World, Below wr.heap.size wr W → W.cell? ⟨lb, 3, none⟩ = some (.int .i64 (G.epoch : Int))) := fun W hW => (hr.out.wal.below hW).l3
      have hep : (G.epoch : Int) ≤ 1000000 := by omega
      have HQ : Hid (∃ u, u = 1 + Wl.sizes R) := ⟨_, rfl⟩
      have NX : Hid (∀ (r : Wl.Rec) (W4 W5 : World) (v' : Value), Wl.getRec m (R.length : Int) = some r → Wl.lastEp 0 R ≤ r.epoch → r.epoch ≤ (G.epoch : Int) → Below wr.heap.size wr W4 → W5.ownsRow w.heap.size 9 1 v' ((txts R).length + 1) ((txts R).map Value.string ++ [.string (ba r.text)]) → W4.grownBy W5 u5.ownBlock → FindAt w ((W5.setCell ⟨lb, 4, none⟩ (.int .i64 ((R.length + 1 : Nat) : Int))).setCell ⟨lb, 5, none⟩ (.int .i64 ((1 + Wl.sizes R + r.size : Nat) : Int))) lb p D G g l.length l v' (R ++ [r]) (m.drop r.size)) :=
        fun r W4 W5 v' a1 a2 a3 a4 a5 a6 => hr.out.next HLN.out hn2 a1 a2 a3 a4 a5 a6 rfl
      have HFits : Hid (∀ r, Wl.getRec m (R.length : Int) = some r → Wl.I64 r.epoch ∧ 1 ≤ r.size ∧ 1 + Wl.sizes R + r.size ≤ l.length) := fun r hr => by
        obtain ⟨q1, q2, _, q4, _⟩ := Wl.rec_local hr
        rw [HM.out, lists_len, hdl] at q2
        have := HU.out
        exact ⟨q4, q1, by omega⟩
      clear htl hm hult hdl hend
      obtain ⟨u, hq⟩ : ∃ u, 1 + Wl.sizes R = u := ⟨_, rfl⟩
      rw [hq] at l5 l5' L5 KG hne1 hu0 hu1 hu' NX HFits
      have HQu := hid hq
      clear hq hu HU HM
      cases hG : Wl.getRec m (R.length : Int) with
      | none =>
        rw [hG] at KG
        have EE : Hid (Wl.Ends (G.epoch : Int) (Wl.lastEp 0 R) R.length m) := fun r hr => by rw [hG] at hr; cases hr
        clear hG NX HFits
        go_wp2_with fail
        go_region_held3 (fun W => W.cell? ⟨lb, 4, none⟩ = some (.int .i64 (R.length : Int)) ∧ W.cell? ⟨lb, 5, none⟩ = some (.int .i64 (u : Int)))
          (first | (go_split_ands; exact ⟨by assumption, by assumption⟩) | (go_split_ands; exact ⟨L4.out _ (belo wr B1.out), L5.out _ (belo wr B1.out)⟩) | (go_split_ands; exact ⟨L4.out _ (belo0 wr _), L5.out _ (belo0 wr _)⟩) | (go_split_ands; exact ⟨L4.out _ (below_three B1.out rfl _ _ _), L5.out _ (below_three B1.out rfl _ _ _)⟩))
          ((go_at_call 79; (first | refine (KG.out _ (Below.refl _ wr).drew).mono ?_ | refine (KG.out _ (belo0 wr _)).mono ?_); rintro r w1 ⟨rfl, hb1⟩; have B1 : Hid (Below wr.heap.size wr w1) := (by first | exact below_tr (Below.refl _ wr).drew hb1 | exact below_tr (belo0 wr _) hb1); have m4 := L4.out w1 B1.out; have m5 := L5.out w1 B1.out; (try (have zb := z_blk hb1; have z0 := z_cell zb 0; have z1 := z_cell zb 1; have z2 := z_cell zb 2; have y0 := z_froz zb 0; have y1 := z_froz zb 1; have y2 := z_froz zb 2; have ZB := hid zb; clear zb; simp at z0 z1 z2)); clear hb1; simp only [recV]))
        all_goals first
          | (obtain ⟨W4, hW4⟩ : ∃ W4, W4 = w1.alloc (.cells #[.string ⟨#[]⟩, .int .i64 0, .int .i64 0] 104) := ⟨_, rfl⟩; rw [← hW4]; have B4 : Hid (Below wr.heap.size wr W4) := (by rw [hW4]; exact belo wr B1.out); clear hW4)
          | (obtain ⟨W4, hW4⟩ : ∃ W4, W4 = ((w1.setCell ⟨wr.heap.size, 0, none⟩ (.string ⟨#[]⟩)).setCell ⟨wr.heap.size, 1, none⟩ (.int .i64 0)).setCell ⟨wr.heap.size, 2, none⟩ (.int .i64 0) := ⟨_, rfl⟩; rw [← hW4]; have B4 : Hid (Below wr.heap.size wr W4) := (by rw [hW4]; exact below_three B1.out rfl _ _ _); clear hW4)
        all_goals (have FA : Hid (∀ n, FindAt w (W4.drewN n) lb p D G g l.length l u5 R m) := fun n => hr.out.below (below_drewN B4.out n))
        all_goals (go_wp2_with fail)
        all_goals (go_quiet (fail))
        all_goals (go_wp2_with fail)
        all_goals go_ret
        all_goals exact ⟨_, R, m, rfl, FA.out _, EE.out⟩
      | some r =>
        obtain ⟨hre, hs1, hs2⟩ := HFits.out r hG
        rw [hG] at KG
        obtain ⟨re1, re2⟩ := hre
        have hsz : (r.size : Int) ≤ 256 := by omega
        have EX : Hid ((r.epoch < Wl.lastEp 0 R ∨ (G.epoch : Int) < r.epoch) → Wl.Ends (G.epoch : Int) (Wl.lastEp 0 R) R.length m) := fun h x hx => by
          rw [hG] at hx
          obtain rfl := Option.some.inj hx
          exact h
        have NY : Hid (∀ (W4 W5 : World) (v' : Value), Wl.lastEp 0 R ≤ r.epoch → r.epoch ≤ (G.epoch : Int) → Below wr.heap.size wr W4 → W5.ownsRow w.heap.size 9 1 v' ((txts R).length + 1) ((txts R).map Value.string ++ [.string (ba r.text)]) → W4.grownBy W5 u5.ownBlock → FindAt w ((W5.setCell ⟨lb, 4, none⟩ (.int .i64 ((R.length + 1 : Nat) : Int))).setCell ⟨lb, 5, none⟩ (.int .i64 ((u + r.size : Nat) : Int))) lb p D G g l.length l v' (R ++ [r]) (m.drop r.size)) := fun W4 W5 v' => NX.out r W4 W5 v' hG
        have HRow : Hid (wr.ownsRow w.heap.size 9 1 u5 (txts R).length ((txts R).map Value.string)) := hr.out.row
        have hwz : Hid (w.heap.size ≤ wr.heap.size) := hr.out.goes.size
        have htl : (txts R).length = R.length := txts_len R
        clear hG NX HFits
        go_wp2_with fail
        go_region_held3 (fun W => W.cell? ⟨lb, 4, none⟩ = some (.int .i64 (R.length : Int)) ∧ W.cell? ⟨lb, 5, none⟩ = some (.int .i64 (u : Int)))
          (first | (go_split_ands; exact ⟨by assumption, by assumption⟩) | (go_split_ands; exact ⟨L4.out _ (belo wr B1.out), L5.out _ (belo wr B1.out)⟩) | (go_split_ands; exact ⟨L4.out _ (belo0 wr _), L5.out _ (belo0 wr _)⟩) | (go_split_ands; exact ⟨L4.out _ (below_three B1.out rfl _ _ _), L5.out _ (below_three B1.out rfl _ _ _)⟩))
          ((go_at_call 79; (first | refine (KG.out _ (Below.refl _ wr).drew).mono ?_ | refine (KG.out _ (belo0 wr _)).mono ?_); rintro rr w1 ⟨rfl, hb1⟩; have B1 : Hid (Below wr.heap.size wr w1) := (by first | exact below_tr (Below.refl _ wr).drew hb1 | exact below_tr (belo0 wr _) hb1); have m4 := L4.out w1 B1.out; have m5 := L5.out w1 B1.out; (try (have zb := z_blk hb1; have z0 := z_cell zb 0; have z1 := z_cell zb 1; have z2 := z_cell zb 2; have y0 := z_froz zb 0; have y1 := z_froz zb 1; have y2 := z_froz zb 2; have ZB := hid zb; clear zb; simp at z0 z1 z2)); clear hb1; simp only [recV]))
        all_goals first
          | (obtain ⟨W4, hW4⟩ : ∃ W4, W4 = w1.alloc (.cells #[.string (ba r.text), .int .i64 r.epoch, .int .i64 (r.size : Int)] 104) := ⟨_, rfl⟩; rw [← hW4]; have B4 : Hid (Below wr.heap.size wr W4) := (by rw [hW4]; exact belo wr B1.out); have hb4 : W4.heap[w1.heap.size]? = some (.cells #[.string (ba r.text), .int .i64 r.epoch, .int .i64 (r.size : Int)] 104 (0, 0)) := (by rw [hW4]; exact heap_alloc_new w1 _); have hrb : wr.heap.size ≤ w1.heap.size := B1.out.size; clear hW4; generalize w1.heap.size = rb at *)
          | (obtain ⟨W4, hW4⟩ : ∃ W4, W4 = ((w1.setCell ⟨wr.heap.size, 0, none⟩ (.string (ba r.text))).setCell ⟨wr.heap.size, 1, none⟩ (.int .i64 r.epoch)).setCell ⟨wr.heap.size, 2, none⟩ (.int .i64 (r.size : Int)) := ⟨_, rfl⟩; rw [← hW4]; have B4 : Hid (Below wr.heap.size wr W4) := (by rw [hW4]; exact below_three B1.out rfl _ _ _); have hb4 : W4.heap[wr.heap.size]? = some (.cells #[.string (ba r.text), .int .i64 r.epoch, .int .i64 (r.size : Int)] 104 (0, 0)) := (by rw [hW4]; exact three_cells ZB.out _ _ _); have hrb : wr.heap.size ≤ wr.heap.size := Nat.le_refl _; clear hW4; obtain ⟨rb, hrbe⟩ : ∃ rb, rb = wr.heap.size := ⟨_, rfl⟩; rw [← hrbe] at hb4 ⊢; have hrb : wr.heap.size ≤ rb := (by omega); clear hrbe)
        all_goals
          have k0 : W4.cell? ⟨rb, 0, none⟩ = some (.string (ba r.text)) := by rw [cell_of_row W4 _ _ _ _ _ hb4]; rfl
          have k1 : W4.cell? ⟨rb, 1, none⟩ = some (.int .i64 r.epoch) := by rw [cell_of_row W4 _ _ _ _ _ hb4]; rfl
          have k2 : W4.cell? ⟨rb, 2, none⟩ = some (.int .i64 (r.size : Int)) := by rw [cell_of_row W4 _ _ _ _ _ hb4]; rfl
          have k3 := l3w.out W4 B4.out
          have HB4 := hid hb4
          have FA : Hid (∀ n, FindAt w (W4.drewN n) lb p D G g l.length l u5 R m) := fun n => hr.out.below (below_drewN B4.out n)
          clear hb4
          (try clear z0 z1 z2 y0 y1 y2 ZB)
          by_cases ha : r.epoch < Wl.lastEp 0 R
          · have ha' : decide (r.epoch < Wl.lastEp 0 R) = true := by simpa using ha
            have EE := hid (EX.out (.inl ha))
            go_wp2_with fail
            go_quiet (fail)
            go_wp2_with fail
            go_ret
            exact ⟨_, R, m, rfl, FA.out _, EE.out⟩
          · have ha' : decide (r.epoch < Wl.lastEp 0 R) = false := by simpa using ha
            by_cases hb : (G.epoch : Int) < r.epoch
            · have hb' : decide ((G.epoch : Int) < r.epoch) = true := by simpa using hb
              have EE := hid (EX.out (.inr hb))
              go_wp2_with fail
              go_quiet (fail)
              go_wp2_with fail
              go_ret
              exact ⟨_, R, m, rfl, FA.out _, EE.out⟩
            · have hb' : decide ((G.epoch : Int) < r.epoch) = false := by simpa using hb
              go_wp2_with fail
              go_quiet (fail)
              have F5 := hid (FA.out nq)
              have B5 : Hid (Below wr.heap.size wr (W4.drewN nq)) := below_drewN B4.out nq
              have HB5 : Hid ((W4.drewN nq).heap[rb]? = some (.cells #[.string (ba r.text), .int .i64 r.epoch, .int .i64 (r.size : Int)] 104 (0, 0))) := HB4.out
              have k0 : (W4.drewN nq).cell? ⟨rb, 0, none⟩ = some (.string (ba r.text)) := k0
              have k1 : (W4.drewN nq).cell? ⟨rb, 1, none⟩ = some (.int .i64 r.epoch) := k1
              clear FA B4 HB4
              generalize W4.drewN nq = W5 at *
              go_wp2_with (at_builtin; refine wpList_append_own _ rfl _ _ 54 rfl w.heap.size 9 i0 (.string ⟨#[]⟩) 1 16 Try.underlying54 hi hz0 hz1 hz2 rfl (by decide) _ _ _ rfl (F5.out.row.alloc _) ⟨W5.heap.size, 0, none⟩ 1 1 [.string (ba r.text)] rfl rfl ?c1 ?c2 ?c3 ?c4 ?c5 ?_)
              case c1 => exact news_str W5 (ba r.text)
              case c2 => exact cell_str _
              case c3 => unfold maxLen; omega
              case c4 => omega
              case c5 => have := F5.out.goes.size; simp; omega
              · intro v' w6 hown' hgrow _
                have VF := hid (owns_form hown')
                rw [← htl] at hown'
                have NZ := hid (NY.out (W5.alloc _) w6 v' ha hb (belo wr B5.out) hown' hgrow)
                have hrow : ∀ k, u5.ownBlock = some k → w.heap.size ≤ k ∧ k < wr.heap.size := fun k hk => HRow.out.lt k hk
                have hb6 := grown_keep HB5.out hgrow (fun e => by have := (hrow rb e).2; omega)
                have hl6 := grown_keep F5.out.wal.log hgrow (fun e => by have := (hrow lb e).1; have := F5.out.old lb (.inr rfl); omega)
                have q1 : w6.cell? ⟨rb, 1, none⟩ = some (.int .i64 r.epoch) := by rw [cell_of_row w6 _ _ _ _ _ hb6]; rfl
                have q2 : w6.cell? ⟨rb, 2, none⟩ = some (.int .i64 (r.size : Int)) := by rw [cell_of_row w6 _ _ _ _ _ hb6]; rfl
                have q4 : w6.cell? ⟨lb, 4, none⟩ = some (.int .i64 (R.length : Int)) := by rw [cell_of_row w6 _ _ _ _ _ hl6]; rfl
                have q5 : w6.cell? ⟨lb, 5, none⟩ = some (.int .i64 (u : Int)) := by rw [← HQu.out, cell_of_row w6 _ _ _ _ _ hl6]; rfl
                have f4 : w6.frozen? ⟨lb, 4, none⟩ = false := by simp [World.frozen?, hl6]
                have f5 : w6.frozen? ⟨lb, 5, none⟩ = false := by simp [World.frozen?, hl6]
                have hne : rb ≠ lb := fun e => by have := F5.out.old lb (.inr rfl); have := hwz.out; omega
                have hRl : (R.length : Int) ≤ 256 := by omega
                have hul : (u : Int) ≤ 256 := by omega
                rw [show ((R.length + 1 : Nat) : Int) = (R.length : Int) + 1 by omega, show ((u + r.size : Nat) : Int) = (u : Int) + (r.size : Int) by omega] at NZ
                clear hown' hgrow hb6 hl6 hrow NY
                go_wp2_with fail
                go_region
                all_goals (try go_wp2_with fail)
                all_goals go_roundw
                all_goals first
                  | exact ⟨R ++ [r], m.drop r.size, by rw [Wl.lastEp_app]; rfl, NZ, by have := HQu.out; simp; omega⟩
                  | exact ⟨R ++ [r], m.drop r.size, by rw [Wl.lastEp_app]; rfl, hid (NZ.out.below (Below.refl _ _).drew), by have := HQu.out; simp; omega⟩
                  | (obtain ⟨a1, c1, e1⟩ := owns_form HRow.out; obtain ⟨a2, c2, e2⟩ := VF.out; rw [e1, e2]; simp; omega)

end Go.Proofs.Ythfpinjegfgeiaa
