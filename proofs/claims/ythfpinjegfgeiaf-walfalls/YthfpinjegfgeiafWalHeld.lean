/- A log on a disk, and a list of texts beside it, in memory of the call's own; quirkeep.logged, walked. -/
import Derived.Test.YthfpinjegfgeiafWalEq
namespace Go.Proofs.Ythfpinjegfgeiaf
open Go Go.RowKit
set_option maxRecDepth 100000

structure Held (w wr : World) (pb lb : Nat) (v : Value) (all : List Wl.By) (p : DP) (D : SD) (G : LG) : Prop where
  hp : p.b = pb
  wal : WalAt wr lb p D G
  row : wr.ownsRow w.heap.size 9 1 v (all.map ba).length ((all.map ba).map Value.string)
  far : ∀ k, v.ownBlock = some k → ¬ wown p lb k
  goes : Goes (fun _ => False) w wr (wown p lb)

section
variable {w wr : World} {pb lb : Nat} {v : Value} {all : List Wl.By} {p : DP} {D : SD} {G : LG} (h : Held w wr pb lb v all p D G)
include h
theorem Held.old : Below w.heap.size w wr := h.goes.below (Nat.le_refl _) (fun _ hk => by cases hk)
theorem Held.below {W : World} (hb : Below wr.heap.size wr W) : Held w W pb lb v all p D G :=
  ⟨h.hp, h.wal.below hb, ownsRow_of_block h.row (fun k hk => hb.block k (h.row.lt k hk).2), h.far, h.goes.trans (Goes.below' hb)⟩
/-- A call of the log's own. -/
theorem Held.step {W : World} {p' : DP} {D' : SD} {G' : LG} (hp : p'.b = p.b) (hw : WalAt W lb p' D' G') (g : Goes (wown p lb) wr W (wown p' lb)) : Held w W pb lb v all p' D' G' := by
  refine ⟨hp.trans h.hp, hw, ownsRow_of_block h.row (fun k hk => g.block k (h.row.lt k hk).2 (h.far k hk)), fun k hk e => ?_, h.goes.trans g⟩
  rcases g.grow k e with e | e
  · exact h.far k hk e
  · have := (h.row.lt k hk).2; omega
/-- A call of the disk's own. -/
theorem Held.disk {W : World} {p' : DP} {D' : SD} (hp : p'.b = p.b) (hd : DiskAt W p' D') (g : Goes p.own wr W p'.own) : Held w W pb lb v all p' D' G := by
  have := h.wal.step hp hd g
  exact h.step hp this.1 this.2
/-- One text more. -/
theorem Held.push {W w5 : World} (hb : Below wr.heap.size wr W) {o : Obj} {v' : Value} {t : Wl.By} (hown : w5.ownsRow w.heap.size 9 1 v' ((all.map ba).length + 1) ((all.map ba).map Value.string ++ [.string (ba t)]))
    (hgrow : (W.alloc o).grownBy w5 v.ownBlock) (hat : v'.ownBlock = v.ownBlock ∨ v'.ownBlock = some (W.alloc o).heap.size) : Held w w5 pb lb v' (all ++ [t]) p D G := by
  have hW := h.below hb
  have hA : Held w (W.alloc o) pb lb v all p D G := hW.below ((Below.refl _ W).alloc (Nat.le_refl _) o)
  have hlt : ∀ k, wown p lb k → k < (W.alloc o).heap.size := hA.wal.own_lt
  have hk : ∀ k, wown p lb k → w5.heap[k]? = (W.alloc o).heap[k]? := fun k hk => hgrow.block k (hlt k hk) (fun e => hA.far k e.symm hk)
  refine ⟨h.hp, hA.wal.keep hk, ?_, fun k hk e => ?_, ?_⟩
  · rw [List.map_append, List.length_append, List.map_append]
    exact hown
  · rcases hat with ha | ha
    · rw [ha] at hk; exact h.far k hk e
    · rw [ha] at hk
      injection hk with hk
      have := hlt k e
      omega
  · exact hA.goes.grown hgrow (fun k hk => .inr (hA.row.lt k hk).1)
/-- A list of one text, new. -/
theorem Held.one {W : World} (hb : Below wr.heap.size wr W) (t : Wl.By) : Held w (W.alloc (.cells #[.string (ba t)] 9)) pb lb (.slice (some ⟨W.heap.size, 0, none⟩) 1 1) [t] p D G := by
  have hW := h.below hb
  have hA : Held w (W.alloc (.cells #[.string (ba t)] 9)) pb lb v all p D G := hW.below ((Below.refl _ W).alloc (Nat.le_refl _) _)
  refine ⟨h.hp, hA.wal, ⟨by simp, .inr ⟨W.heap.size, 1, #[.string (ba t)], rfl, hW.goes.size, heap_alloc_new W _, Nat.le_refl _, by unfold maxLen; omega, rfl, rfl⟩⟩, fun k hk e => ?_, hA.goes⟩
  simp only [Value.ownBlock, Option.some.injEq] at hk
  have := hW.wal.own_lt k e
  omega
end

theorem txts_all (R : List Wl.Rec) : txts R = (R.map (·.text)).map ba := by unfold txts; rw [List.map_map]; rfl

/-- A log that was opened anew on the same disk. -/
theorem Held.anew {w wr W : World} {pb lb lb' : Nat} {v v' : Value} {all : List Wl.By} {p p' : DP} {D D' : SD} {G G' : LG} {R : List Wl.Rec} (h : Held w wr pb lb v all p D G) (hp : p'.b = p.b) (hw : WalAt W lb' p' D' G')
    (hrow : W.ownsRow wr.heap.size 9 1 v' R.length ((txts R).map Value.string)) (hfar : ∀ k, v'.ownBlock = some k → ¬ wown p' lb' k) (g : Goes p.own wr W (wown p' lb')) : Held w W pb lb' v' (R.map (·.text)) p' D' G' := by
  refine ⟨hp.trans h.hp, hw, ?_, hfar, ?_⟩
  · rw [← txts_all, txts_len]
    exact owns_mono hrow h.goes.size
  · refine ⟨g.os.trans h.goes.os, g.tape.trans h.goes.tape, g.output.trans h.goes.output, Nat.le_trans h.goes.size g.size, fun k hk hn => ?_, fun k hk => ?_⟩
    · have hno : ¬ p.own k := fun e => by
        rcases h.goes.grow k (.inl e) with e | e
        · exact e
        · omega
      exact (g.block k (Nat.lt_of_lt_of_le hk h.goes.size) hno).trans (h.goes.block k hk hn)
    · rcases g.grow k hk with e | e
      · exact h.goes.grow k (.inl e)
      · exact .inr (Nat.le_trans h.goes.size e)

theorem fresh_told (k a n : Nat) (hk : k ≤ 256) (h2 : 2 ≤ n) (hf : a + n ≤ k) : ∃ m, Told (SD.fresh k) a n 0 [] m ∧ getA ((SD.fresh k).seen.getD a ⟨#[]⟩) = (((0 : Nat) : Int), true) := by
  have hF := fresh_fallen k a n hk h2 hf
  obtain ⟨E, R, m, h1, h3, h4, h5, h6, h7⟩ := hF.log
  have hR : R = [] := by simpa using h7
  subst hR
  have e : (SD.fresh k).seen.getD a ⟨#[]⟩ = zeros 64 := by
    show (List.replicate k (zeros 64)).getD a ⟨#[]⟩ = _
    rw [List.getD_eq_getElem?_getD, List.getElem?_replicate, if_pos (by omega)]
    rfl
  have e2 : getA (zeros 64) = (0, true) := by unfold getA; rw [if_pos rfl]
  rw [e, e2] at h3
  have hE : E = 0 := by
    have := congrArg Prod.fst h3
    simp at this
    omega
  subst hE
  exact ⟨m, ⟨hF.ok, h2, hF.fit, h4, h5, h6⟩, by rw [e, e2]; rfl⟩

set_option maxHeartbeats 2000000 in
theorem logged_any (w : World) : Calls Try.prog 21 #[] w fun e w' =>
    ∃ (p : DP) (lb : Nat) (v : Value) (D : SD), e = .returned (.tuple #[.pointer (some ⟨p.b, 0, none⟩), .pointer (some ⟨lb, 0, none⟩), .bool true]) ∧ Held w w' p.b lb v [] p D ⟨2, 20, 1, 0, 1, true⟩ ∧ Good D ⟨2, 20, 1, 0, 1, true⟩ [] 0 ∧ D.fused = false ∧ D.loose = [] := by
  have K1 := hid (new_any w 24 ⟨by omega, by omega⟩)
  obtain ⟨m, hT, hA⟩ := fresh_told 24 2 20 (by omega) (by omega) (by omega)
  have K2 := hid fun W p (hW : DiskAt W p (SD.fresh 24)) => open_told W p (SD.fresh 24) hW 2 20 0 [] m hT (by omega) rfl hA (by show 0 ≤ _; omega)
  clear hT hA
  go_enter Try.func21, Try.ntmps21
  go_wp2_with fail
  refine K1.out.mono ?_
  rintro r w1 ⟨p, rfl, h1, g1⟩
  have H1 : Hid (DiskAt w1 p (SD.fresh 24)) := h1
  have G1 := hid g1
  clear h1 g1 K1
  go_wp2_with fail
  refine (K2.out _ _ H1.out).mono ?_
  rintro r w2 hpost
  rcases hpost with ⟨e, _⟩ | ⟨_, p', lb, v, D', G', hp, rfl, hw, hg, hf, hlo, hG, hrow, hfar, hgo, hlb⟩
  · omega
  · have hG' : G' = ⟨2, 20, 1, 0, 1, true⟩ := hG
    subst hG'
    have hH : Held w w2 p'.b lb v [] p' D' ⟨2, 20, 1, 0, 1, true⟩ := by
      refine ⟨rfl, hw, owns_mono hrow G1.out.size, hfar, ⟨hgo.os.trans G1.out.os, hgo.tape.trans G1.out.tape, hgo.output.trans G1.out.output, Nat.le_trans G1.out.size hgo.size, fun k hk hn => ?_, fun k hk => ?_⟩⟩
      · have hno : ¬ p.own k := fun e => by
          rcases G1.out.grow k e with e | e
          · exact e
          · omega
        exact (hgo.block k (Nat.lt_of_lt_of_le hk G1.out.size) hno).trans (G1.out.block k hk hn)
      · rcases hgo.grow k hk with e | e
        · exact G1.out.grow k e
        · exact .inr (Nat.le_trans G1.out.size e)
    have HH := hid hH
    have HG := hid hg
    have HF := hid hf
    have HLO := hid hlo
    obtain ⟨a, c, rfl⟩ := owns_form hrow
    have HP := hid hp
    clear hH hw hg hf hlo hrow hfar hgo hlb K2 H1 G1 hG hp
    go_wp2_with fail
    go_ret3
    exact ⟨p', lb, _, D', by rw [← HP.out]; rfl, HH.out, HG.out, HF.out, HLO.out⟩

end Go.Proofs.Ythfpinjegfgeiaf
