/- quirkeep.BuddyOwn, walked: it answers true, and nothing that was there has turned. Conditions: how many blocks there are. -/
import Derived.Test.YtodimkkgmidgcanBuddyDrop
import Derived.Test.YtodimkkgmidgcanBuddyStays
import Derived.Test.YtodimkkgmidgcanBuddySpoil
import Derived.Test.YtodimkkgmidgcanBuddyHelp
namespace Go.Proofs.Ytodimkkgmidgcan.PBuddy
open Go Go.RowKit PPool
set_option maxRecDepth 100000

theorem take_one : Bd.takeA 1 [] 0 = (1, [⟨0, 0⟩], 0, 0) := by decide
theorem dropA_len (N : Int) (X : List Bd.Bk) (z : Int) : (Bd.dropA N X z).2.1.length ≤ 1024 := by
  unfold Bd.dropA
  split
  · simp
  · split
    · simp
    · rename_i h1 h2
      have := check_len (N := N) (Y := X) (Classical.byContradiction fun e => h1 e)
      have h3 := List.length_eraseIdx_le X (Bd.spot X z)
      show (X.eraseIdx _).length ≤ 1024
      omega
/-- What stands behind the making of the room that is handed on. -/
structure Made (w wf wi : World) (N : Int) (X : List Bd.Bk) (ib g cp : Nat) : Prop where
  below : Below wf.heap.size wf wi
  i0 : wi.cell? ⟨ib, 0, none⟩ = some (.int .i64 N)
  i1 : wi.cell? ⟨ib, 1, none⟩ = some (.slice (some ⟨g, 0, none⟩) X.length cp)
  own : OwnPg wi wf.heap.size (.slice (some ⟨g, 0, none⟩) (X.length + 2) cp) (X ++ [⟨77, 0⟩, ⟨77, 0⟩])
theorem Made.behind {w wf w3 : World} {N : Int} {X : List Bd.Bk} {g cp : Nat} (ho : OwnPg w3 wf.heap.size (.slice (some ⟨g, 0, none⟩) (X.length + 2) cp) (X ++ [⟨77, 0⟩, ⟨77, 0⟩])) (hb : Below wf.heap.size wf w3) :
    Made w wf (w3.alloc (.cells #[.int .i64 N, .slice (some ⟨g, 0, none⟩) X.length cp] 42)) N X w3.heap.size g cp :=
  ⟨below_tr hb (bx _ _), (now2 _ _ _ _).1, (now2 _ _ _ _).2, ho.keepAlloc _⟩
theorem Made.ahead {w wf w3 : World} {N : Int} {X : List Bd.Bk} {g cp : Nat} {x y : Value} {T : TypeId} (ho : OwnPg w3 (wf.alloc (.cells #[x, y] T)).drew.heap.size (.slice (some ⟨g, 0, none⟩) (X.length + 2) cp) (X ++ [⟨77, 0⟩, ⟨77, 0⟩])) (hb : Below (wf.alloc (.cells #[x, y] T)).drew.heap.size (wf.alloc (.cells #[x, y] T)).drew w3) :
    Made w wf ((w3.setCell ⟨wf.heap.size, 0, none⟩ (.int .i64 N)).setCell ⟨wf.heap.size, 1, none⟩ (.slice (some ⟨g, 0, none⟩) X.length cp)) N X wf.heap.size g cp := by
  have hblk : w3.heap[wf.heap.size]? = some (.cells #[x, y] T (0, 0)) := (hb.block _ (by simp)).trans (heap_alloc_new wf _)
  have hr := res2 hblk (.int .i64 N) (.slice (some ⟨g, 0, none⟩) X.length cp)
  have hge : wf.heap.size + 1 ≤ g := by have := (ho.lt g rfl).1; simpa using this
  refine ⟨Below.two (below_tr (bx _ _) (drew_below hb)) (Nat.le_refl _) _ _ _ _, hr.1, hr.2, ?_⟩
  refine (ho.lower (base' := wf.heap.size) (by simp)).keep fun q hq => ?_
  have hqg : g = q := Option.some.inj hq
  rw [Below.heap_setCell _ _ _ _ (by show q ≠ wf.heap.size; omega), Below.heap_setCell _ _ _ _ (by show q ≠ wf.heap.size; omega)]

theorem own_apart {p q g : Nat} (h : p ≤ q) (hg : g < p) : some (⟨q, 1, none⟩ : Addr).block ≠ some g := fun e => by
  have : q = g := Option.some.inj e
  omega
theorem own_apart' {p q g : Nat} (h : p ≤ q) (hg : g < p) : some q ≠ some g := fun e => by
  have : q = g := Option.some.inj e
  omega

set_option maxHeartbeats 8000000 in
theorem own_walk (w : World) (N : Int) (a : Option Addr) (c : Nat) (X : List Bd.Bk) (k z : Int) (h : PgAt w a X) (hn : X.length * 16 ≤ 140737488351232) (hc : a = none → c = 0) :
    Calls Try.prog 4 #[bud N a X.length c, .int .i64 k, .int .i64 z] w fun e w' => e = .returned (.bool true) ∧ Below w.heap.size w w' := by
  have K0 := hid fun W => take_any W 1 none 0 [] 0 (PgAt.nil W none) (by simp)
  rw [take_one] at K0
  have KA := hid fun W (hW : PgAt W a X) => ample_any W a c X 77 0 hW hc hn
  have KP := hid fun W a' c' (hW : PgAt W a' X) => take_any W N a' c' X k hW (by omega)
  have KD := hid fun W a' c' (hW : PgAt W a' X) => drop_any W N a' c' X z hW (by omega)
  have KF := hid fun W a' c' (hW : PgAt W a' X) => free_any W N a' c' X hW (by omega)
  have KS := hid fun W base g cp (hW : OwnPg W base (.slice (some ⟨g, 0, none⟩) (X.length + 2) cp) (X ++ [⟨77, 0⟩, ⟨77, 0⟩])) (hW2 : PgAt W a X) => stays_any W base g cp a c X 77 0 hW hW2 hn
  have hp40 := takeA_len N X k
  have hd40 := dropA_len N X z
  have hf40 := freeA_len N X
  unfold bud takeV at *
  unfold dropV at KD
  generalize Bd.takeA N X k = P at *
  generalize Bd.dropA N X z = D at *
  generalize Bd.freeA N X = F at *
  generalize Bd.check N X = CX at *
  obtain ⟨P0, P1, P2, P3⟩ := P
  obtain ⟨D0, D1, D2⟩ := D
  simp only at hp40 hd40 KP KD K0
  have HP40 := hid hp40
  have HD40 := hid hd40
  have HF40 := hid hf40
  have KC := hid fun W a' c' (Y : List Bd.Bk) (hW : PgAt W a' Y) (hY : Y.length ≤ 1024) => clone_any W a' c' Y hW (by omega)
  have KE := hid fun W a1 a2 c1 c2 (Y : List Bd.Bk) (hW1 : PgAt W a1 Y) (hW2 : PgAt W a2 Y) (hY : Y.length ≤ 1024) => equal_any W a1 a2 c1 c2 Y Y hW1 hW2 (by omega) (by omega)
  have KE' : Hid (∀ W a1 a2 c1 c2 (Y : List Bd.Bk), PgAt W a1 Y → PgAt W a2 Y → Y.length ≤ 1024 → Calls Try.prog 20 #[.slice a1 Y.length c1, .slice a2 Y.length c2] W fun e w' => e = .returned (.bool true) ∧ Below W.heap.size W w') := fun W a1 a2 c1 c2 Y h1 h2 h3 => by
    have := KE.out W a1 a2 c1 c2 Y h1 h2 h3
    rw [decide_eq_true rfl] at this
    exact this
  have H := hid h
  have HN := hid hn
  have hl' : (X.length : Int) ≤ 8796093021952 := by omega
  clear h hn hp40 hd40 hf40 KE hc
  go_enter Try.func4, Try.ntmps4
  go_wp2_with fail
  obtain ⟨c0, c1⟩ := now2 w (.int .i64 N) (.slice a X.length c) 42
  have B0 := hid (bx w (.cells #[.int .i64 N, .slice a X.length c] 42))
  have H0 := hid (H.out.below B0.out)
  generalize hb0 : w.heap.size = b0 at *
  generalize w.alloc (.cells #[.int .i64 N, .slice a X.length c] 42) = wb at *
  refine (K0.out _).mono ?_
  rintro r w1 ⟨v1, rfl, ho1, hb⟩
  obtain ⟨g1, k1, rfl, -⟩ := ho1.some (by simp)
  have hb' := below_tr (below_tr hb (bx w1 (.cells #[.int .i64 1, .slice (some ⟨g1, 0, none⟩) 1 k1] 42))) (bx _ (.cells #[.int .i64 77, .int .i64 0] 46))
  obtain ⟨x0, x1⟩ := now2 w1 (.int .i64 1) (.slice (some ⟨g1, 0, none⟩) 1 k1) 42
  obtain ⟨f0, f1⟩ := now2 (w1.alloc (.cells #[.int .i64 1, .slice (some ⟨g1, 0, none⟩) 1 k1] 42)) (.int .i64 77) (.int .i64 0) 46
  rw [World.size_alloc] at f0 f1
  replace c0 := keep1 hb' c0
  replace c1 := keep1 hb' c1
  have PF := hid (H0.out.below hb')
  have B1 : Hid (Below b0 w ((w1.alloc (.cells #[.int .i64 1, .slice (some ⟨g1, 0, none⟩) 1 k1] 42)).alloc (.cells #[.int .i64 77, .int .i64 0] 46))) := B0.out.trans (hb'.mono (by have := B0.out.size; rw [← hb0]; exact this))
  have HB1 : Hid (b0 ≤ ((w1.alloc (.cells #[.int .i64 1, .slice (some ⟨g1, 0, none⟩) 1 k1] 42)).alloc (.cells #[.int .i64 77, .int .i64 0] 46)).heap.size) := by
    show b0 ≤ _
    have := B1.out.size
    rw [← hb0]
    exact this
  clear hb hb' K0 ho1 B0 H0
  go_wp2_with fail
  generalize hfb : w1.heap.size + 1 = fb at *
  generalize (w1.alloc (.cells #[.int .i64 1, .slice (some ⟨g1, 0, none⟩) 1 k1] 42)).alloc (.cells #[.int .i64 77, .int .i64 0] 46) = wf at *
  clear hfb x0 x1
  have SB : Hid (∀ W, Below wf.heap.size wf W → W.cell? ⟨b0, 0, none⟩ = some (.int .i64 N) ∧ W.cell? ⟨b0, 1, none⟩ = some (.slice a X.length c) ∧ W.cell? ⟨fb, 0, none⟩ = some (.int .i64 77) ∧ W.cell? ⟨fb, 1, none⟩ = some (.int .i64 0)) := fun W hW => ⟨keep1 hW c0, keep1 hW c1, keep1 hW f0, keep1 hW f1⟩
  have hne0 : b0 < wf.heap.size := World.block_lt_of_cell? wf _ c0
  have hne1 : fb < wf.heap.size := World.block_lt_of_cell? wf _ f0
  have HNE := hid (And.intro hne0 hne1)
  clear hne0 hne1
  go_region_held3 (fun W => W.cell? ⟨b0, 0, none⟩ = some (.int .i64 N) ∧ W.cell? ⟨b0, 1, none⟩ = some (.slice a X.length c) ∧ W.cell? ⟨fb, 0, none⟩ = some (.int .i64 77) ∧ W.cell? ⟨fb, 1, none⟩ = some (.int .i64 0))
    ((refine SB.out _ ?_; first | exact B3.out | exact MA.out.below | exact MB.out.below | repeat (first | exact Below.refl _ _ | exact B3.out | refine Below.drew ?_ | (refine Below.alloc ?_ (by simp) _) | (refine Below.alloc ?_ B3.out.size _))))
    ((go_at_call 14; refine (KA.out _ (by first | exact PF.out.drew | exact (PF.out.below (bx _ _)).drew)).mono ?_; rintro r w3 ⟨g, cp, rfl, ho3, hb3⟩; have B3 : Hid (Below wf.heap.size wf w3) := (by first | exact drew_below hb3 | exact below_tr (bx _ _) (drew_below hb3)); (try (have MA : Hid (Made w wf (w3.alloc (.cells #[.int .i64 N, .slice (some ⟨g, 0, none⟩) X.length cp] 42)) N X w3.heap.size g cp) := Made.behind ho3 B3.out)); (try (have MB : Hid (Made w wf ((w3.setCell ⟨wf.heap.size, 0, none⟩ (.int .i64 N)).setCell ⟨wf.heap.size, 1, none⟩ (.slice (some ⟨g, 0, none⟩) X.length cp)) N X wf.heap.size g cp) := Made.ahead ho3 hb3)); (try (have zb : w3.heap[wf.heap.size]? = some (.cells #[.int .i64 0, .slice none 0 0] 42 (0, 0)) := (hb3.block _ (by simp)).trans (heap_alloc_new wf _); have z0 : w3.cell? ⟨wf.heap.size, 0, none⟩ = some (.int .i64 0) := (by rw [cell_of_row w3 _ _ _ _ _ zb]; rfl); have z1 : w3.cell? ⟨wf.heap.size, 1, none⟩ = some (.slice none 0 0) := (by rw [cell_of_row w3 _ _ _ _ _ zb]; rfl); have z2 := fz_of zb 0; have z3 := fz_of zb 1; clear zb)); clear hb3 ho3))
  all_goals first
    | (have M := hid MA.out; clear MA; generalize hib : w3.heap.size = ib at *; generalize w3.alloc (.cells #[.int .i64 N, .slice (some ⟨g, 0, none⟩) X.length cp] 42) = wi at *; clear hib)
    | (have M := hid MB.out; clear MB; generalize (w3.setCell ⟨wf.heap.size, 0, none⟩ (.int .i64 N)).setCell ⟨wf.heap.size, 1, none⟩ (.slice (some ⟨g, 0, none⟩) X.length cp) = wi at *; obtain ⟨ib, hib⟩ : ∃ ib, ib = wf.heap.size := ⟨_, rfl⟩; rw [← hib] at M ⊢; clear hib)
  · have i0 := M.out.i0
    have i1 := M.out.i1
    obtain ⟨c0, c1, f0, f1⟩ := SB.out _ M.out.below
    obtain ⟨pf3, hcp3, hg3, hge3⟩ := Amp.front M.out.own
    have O3 := hid M.out.own
    have PI := hid pf3
    have PA := hid (PF.out.below M.out.below)
    have HGI := hid hg3
    have HGE : Hid (b0 ≤ g) := Nat.le_trans HB1.out hge3
    have B3w : Hid (Below b0 w wi) := B1.out.trans (M.out.below.mono HB1.out)
    clear M SB PF B1 KA pf3 hcp3 hg3 hge3 B3
    (try clear z0 z1 z2 z3)
    (try clear MA)
    (try clear MB)
    go_wp2_with fail
    refine (KP.out _ _ _ PI.out).mono ?_
    rintro r w4 ⟨v4, rfl, ho4, hb⟩
    obtain ⟨a4, c4, rfl, -⟩ := ho4.at_
    have hb' := below_tr hb (bx w4 (.cells #[.int .i64 P0, .slice a4 P1.length c4] 42))
    have x1 := (now2 w4 (.int .i64 P0) (.slice a4 P1.length c4) 42).2
    replace c0 := keep1 hb' c0
    replace c1 := keep1 hb' c1
    replace f0 := keep1 hb' f0
    replace f1 := keep1 hb' f1
    replace i0 := keep1 hb' i0
    replace i1 := keep1 hb' i1
    have C4 := hid hb'
    have HAB : Hid (wi.heap.size ≤ w4.heap.size) := hb.size
    have O4 := hid (ho4.keepAlloc (.cells #[.int .i64 P0, .slice a4 P1.length c4] 42))
    clear hb hb' ho4 KP
    go_wp2_with fail
    generalize hab : w4.heap.size = ab at *
    generalize w4.alloc (.cells #[.int .i64 P0, .slice a4 P1.length c4] 42) = wa at *
    clear hab
    refine (KD.out _ _ _ (PI.out.below C4.out)).mono ?_
    rintro r w5 ⟨v5, rfl, ho5, hb⟩
    obtain ⟨a5, c5, rfl, -⟩ := ho5.at_
    have hb' := below_tr hb (bx w5 (.cells #[.int .i64 D0, .slice a5 D1.length c5] 42))
    have y1 := (now2 w5 (.int .i64 D0) (.slice a5 D1.length c5) 42).2
    replace c0 := keep1 hb' c0
    replace c1 := keep1 hb' c1
    replace f0 := keep1 hb' f0
    replace f1 := keep1 hb' f1
    replace i0 := keep1 hb' i0
    replace i1 := keep1 hb' i1
    replace x1 := keep1 hb' x1
    have C5 := hid (below_tr C4.out hb')
    have HBB : Hid (wi.heap.size ≤ w5.heap.size) := Nat.le_trans C4.out.size hb.size
    have O45 := hid (O4.out.below hb')
    have O5 := hid ((ho5.keepAlloc (.cells #[.int .i64 D0, .slice a5 D1.length c5] 42)).lower C4.out.size)
    clear hb hb' ho5 KD O4 C4
    go_wp2_with fail
    generalize hbb : w5.heap.size = bb at *
    generalize w5.alloc (.cells #[.int .i64 D0, .slice a5 D1.length c5] 42) = wbb at *
    clear hbb
    refine (KF.out _ _ _ (PI.out.below C5.out)).mono ?_
    rintro r w6 ⟨v6, rfl, ho6, hb⟩
    obtain ⟨a6, c6, rfl, -⟩ := ho6.at_
    replace c0 := keep1 hb c0
    replace c1 := keep1 hb c1
    replace f0 := keep1 hb f0
    replace f1 := keep1 hb f1
    replace i0 := keep1 hb i0
    replace i1 := keep1 hb i1
    replace x1 := keep1 hb x1
    replace y1 := keep1 hb y1
    have C6 := hid (below_tr C5.out hb)
    have O46 := hid (O45.out.below hb)
    have O56 := hid (O5.out.below hb)
    have O66 := hid (ho6.lower C5.out.size)
    clear hb KF O45 O5 C5 ho6
    go_wp2_with fail
    refine (KS.out _ _ _ _ (O3.out.below C6.out) (PA.out.below C6.out)).mono ?_
    rintro r w7 ⟨rfl, hb⟩
    replace f0 := keep1 hb f0
    replace f1 := keep1 hb f1
    replace i1 := keep1 hb i1
    replace x1 := keep1 hb x1
    replace y1 := keep1 hb y1
    have C7 := hid (below_tr C6.out hb)
    have O47 := hid (O46.out.below hb)
    have O57 := hid (O56.out.below hb)
    have O67 := hid (O66.out.below hb)
    clear hb KS O46 O56 O66 C6 c0 c1 i0
    have Q4 := hid (own_pg O47.out)
    have Q5 := hid (own_pg O57.out)
    have Q6 := hid (own_pg O67.out)
    go_wp2_with fail
    go_region_held3 (fun W => W.cell? ⟨ab, 1, none⟩ = some (.slice a4 P1.length c4) ∧ W.cell? ⟨bb, 1, none⟩ = some (.slice a5 D1.length c5))
      (first | exact ⟨x1, y1⟩ | (go_split_ands; exact ⟨by assumption, by assumption⟩))
      ((first | (go_at_call 18; refine (KC.out _ a4 c4 P1 Q4.out.drew HP40.out).mono ?_; rintro r w8 ⟨v8, rfl, ho8, hb⟩; have C8 := hid (drew_below hb); have x8 := keep1 C8.out x1; have y8 := keep1 C8.out y1; have O8 := hid ho8; clear hb ho8) | (go_at_call 18; refine (KC.out _ a5 c5 D1 (Q5.out.below C8.out) HD40.out).mono ?_; rintro r w9 ⟨v9, rfl, ho9, hb⟩; have C9 := hid hb; have x9 := keep1 hb x8; have y9 := keep1 hb y8; have O9 := hid ho9; clear hb ho9) | (go_at_call 18; refine (KC.out _ a6 c6 F (Q6.out.below (below_tr C8.out C9.out)) HF40.out).mono ?_; rintro r w10 ⟨v10, rfl, ho10, hb⟩; have C10 := hid hb; have x10 := keep1 hb x9; have y10 := keep1 hb y9; have O10 := hid ho10; clear hb ho10)))
    have C70 := hid (below_tr (below_tr C8.out C9.out) C10.out)
    have i9 := keep1 C70.out i1
    have f9 := keep1 C70.out f0
    have f9' := keep1 C70.out f1
    have O39 := hid (O3.out.below (below_tr C7.out C70.out))
    have O49 := hid (O47.out.below C70.out)
    have O59 := hid (O57.out.below C70.out)
    have O69 := hid (O67.out.below C70.out)
    have O89 := hid ((O8.out.below (below_tr C9.out C10.out)).lower (base' := wi.heap.size) C7.out.size)
    have O99 := hid ((O9.out.below C10.out).lower (base' := wi.heap.size) (Nat.le_trans C7.out.size C8.out.size))
    have O109 := hid (O10.out.lower (base' := wi.heap.size) (Nat.le_trans C7.out.size (Nat.le_trans C8.out.size C9.out.size)))
    have B9 : Hid (Below b0 w w10) := B3w.out.trans ((below_tr C7.out C70.out).mono (Nat.le_trans HGE.out (Nat.le_of_lt HGI.out)))
    obtain ⟨a8, c8, rfl, -⟩ := O89.out.at_
    obtain ⟨a9, c9, rfl, -⟩ := O99.out.at_
    obtain ⟨a10, c10, rfl, -⟩ := O109.out.at_
    have hBk := Blk.of O39.out
    have hg9 : g < w10.heap.size := (O39.out.lt g rfl).2
    have hcm := own_cap O39.out
    rw [show (X ++ [(⟨77, 0⟩ : Bd.Bk), ⟨77, 0⟩]).length = X.length + 2 by simp] at hcm
    have KX := hid (spoil_any w10 g X.length cp 77 0 hBk hg9 (Nat.le_trans (Nat.le_add_right _ 2) hcm.1) hcm.2)
    clear i1 f0 f1 x1 y1 x8 y8 x9 y9 C8 C9 C10 C7 O47 O57 O67 O8 O9 O10 O3 Q4 Q5 Q6 hBk hcm O39 B3w KC PI PA
    go_wp2_with fail
    refine KX.out.mono ?_
    rintro r w11 ⟨rfl, hgr⟩
    have x11 := hgr.cell x10 (own_apart HAB.out HGI.out)
    have y11 := hgr.cell y10 (own_apart HBB.out HGI.out)
    have GK := hid fun v Y (hO : OwnPg w10 wi.heap.size v Y) => hO.keep (w' := w11) fun q hq => hgr.block q (hO.lt q hq).2 (own_apart' (hO.lt q hq).1 HGI.out)
    have E1 := hid (GK.out _ _ O49.out)
    have E2 := hid (GK.out _ _ O59.out)
    have E3 := hid (GK.out _ _ O69.out)
    have E4 := hid (GK.out _ _ O89.out)
    have E5 := hid (GK.out _ _ O99.out)
    have E6 := hid (GK.out _ _ O109.out)
    have B10 : Hid (Below b0 w w11) := B9.out.grown hgr (by have := B9.out.size; have := HGE.out; exact Nat.le_trans HGE.out (Nat.le_of_lt hg9)) (fun q hq => by injection hq with hq; subst hq; exact HGE.out)
    have R1 := hid (KE'.out w11 a4 a8 c4 c8 P1 (own_pg E1.out) (own_pg E4.out) HP40.out)
    have R2 := hid fun W (hb : Below w11.heap.size w11 W) => KE'.out W a5 a9 c5 c9 D1 ((own_pg E2.out).below hb) ((own_pg E5.out).below hb) HD40.out
    have R3 := hid fun W (hb : Below w11.heap.size w11 W) => KE'.out W a6 a10 c6 c10 F ((own_pg E3.out).below hb) ((own_pg E6.out).below hb) HF40.out
    have HS11 : Hid (b0 ≤ w11.heap.size) := Nat.le_trans HGE.out (Nat.le_of_lt (Nat.lt_of_lt_of_le hg9 hgr.size))
    clear hgr x10 y10 i9 f9 f9' KX GK O49 O59 O69 O89 O99 O109 B9 C70 E1 E2 E3 E4 E5 E6 KE' hg9
    go_wp2_with fail
    refine R1.out.mono ?_
    rintro r w12 ⟨rfl, hb⟩
    have y12 := keep1 hb y11
    have C12 := hid hb
    clear hb x11 y11 R1
    go_wp2_with fail
    refine (R2.out _ C12.out).mono ?_
    rintro r w13 ⟨rfl, hb⟩
    have C13 := hid (below_tr C12.out hb)
    clear hb y12 R2 C12
    go_wp2_with fail
    refine (R3.out _ C13.out).mono ?_
    rintro r w14 ⟨rfl, hb⟩
    have C14 := hid (below_tr C13.out hb)
    clear hb R3 C13
    go_wp2_with fail
    go_ret
    exact ⟨rfl, by rw [hb0]; exact B10.out.trans (C14.out.mono HS11.out)⟩
  · have i0 := M.out.i0
    have i1 := M.out.i1
    obtain ⟨c0, c1, f0, f1⟩ := SB.out _ M.out.below
    obtain ⟨pf3, hcp3, hg3, hge3⟩ := Amp.front M.out.own
    have O3 := hid M.out.own
    have PI := hid pf3
    have PA := hid (PF.out.below M.out.below)
    have HGI := hid hg3
    have HGE : Hid (b0 ≤ g) := Nat.le_trans HB1.out hge3
    have B3w : Hid (Below b0 w wi) := B1.out.trans (M.out.below.mono HB1.out)
    clear M SB PF B1 KA pf3 hcp3 hg3 hge3 B3
    (try clear z0 z1 z2 z3)
    (try clear MA)
    (try clear MB)
    go_wp2_with fail
    refine (KP.out _ _ _ PI.out).mono ?_
    rintro r w4 ⟨v4, rfl, ho4, hb⟩
    obtain ⟨a4, c4, rfl, -⟩ := ho4.at_
    have hb' := below_tr hb (bx w4 (.cells #[.int .i64 P0, .slice a4 P1.length c4] 42))
    have x1 := (now2 w4 (.int .i64 P0) (.slice a4 P1.length c4) 42).2
    replace c0 := keep1 hb' c0
    replace c1 := keep1 hb' c1
    replace f0 := keep1 hb' f0
    replace f1 := keep1 hb' f1
    replace i0 := keep1 hb' i0
    replace i1 := keep1 hb' i1
    have C4 := hid hb'
    have HAB : Hid (wi.heap.size ≤ w4.heap.size) := hb.size
    have O4 := hid (ho4.keepAlloc (.cells #[.int .i64 P0, .slice a4 P1.length c4] 42))
    clear hb hb' ho4 KP
    go_wp2_with fail
    generalize hab : w4.heap.size = ab at *
    generalize w4.alloc (.cells #[.int .i64 P0, .slice a4 P1.length c4] 42) = wa at *
    clear hab
    refine (KD.out _ _ _ (PI.out.below C4.out)).mono ?_
    rintro r w5 ⟨v5, rfl, ho5, hb⟩
    obtain ⟨a5, c5, rfl, -⟩ := ho5.at_
    have hb' := below_tr hb (bx w5 (.cells #[.int .i64 D0, .slice a5 D1.length c5] 42))
    have y1 := (now2 w5 (.int .i64 D0) (.slice a5 D1.length c5) 42).2
    replace c0 := keep1 hb' c0
    replace c1 := keep1 hb' c1
    replace f0 := keep1 hb' f0
    replace f1 := keep1 hb' f1
    replace i0 := keep1 hb' i0
    replace i1 := keep1 hb' i1
    replace x1 := keep1 hb' x1
    have C5 := hid (below_tr C4.out hb')
    have HBB : Hid (wi.heap.size ≤ w5.heap.size) := Nat.le_trans C4.out.size hb.size
    have O45 := hid (O4.out.below hb')
    have O5 := hid ((ho5.keepAlloc (.cells #[.int .i64 D0, .slice a5 D1.length c5] 42)).lower C4.out.size)
    clear hb hb' ho5 KD O4 C4
    go_wp2_with fail
    generalize hbb : w5.heap.size = bb at *
    generalize w5.alloc (.cells #[.int .i64 D0, .slice a5 D1.length c5] 42) = wbb at *
    clear hbb
    refine (KF.out _ _ _ (PI.out.below C5.out)).mono ?_
    rintro r w6 ⟨v6, rfl, ho6, hb⟩
    obtain ⟨a6, c6, rfl, -⟩ := ho6.at_
    replace c0 := keep1 hb c0
    replace c1 := keep1 hb c1
    replace f0 := keep1 hb f0
    replace f1 := keep1 hb f1
    replace i0 := keep1 hb i0
    replace i1 := keep1 hb i1
    replace x1 := keep1 hb x1
    replace y1 := keep1 hb y1
    have C6 := hid (below_tr C5.out hb)
    have O46 := hid (O45.out.below hb)
    have O56 := hid (O5.out.below hb)
    have O66 := hid (ho6.lower C5.out.size)
    clear hb KF O45 O5 C5 ho6
    go_wp2_with fail
    refine (KS.out _ _ _ _ (O3.out.below C6.out) (PA.out.below C6.out)).mono ?_
    rintro r w7 ⟨rfl, hb⟩
    replace f0 := keep1 hb f0
    replace f1 := keep1 hb f1
    replace i1 := keep1 hb i1
    replace x1 := keep1 hb x1
    replace y1 := keep1 hb y1
    have C7 := hid (below_tr C6.out hb)
    have O47 := hid (O46.out.below hb)
    have O57 := hid (O56.out.below hb)
    have O67 := hid (O66.out.below hb)
    clear hb KS O46 O56 O66 C6 c0 c1 i0
    have Q4 := hid (own_pg O47.out)
    have Q5 := hid (own_pg O57.out)
    have Q6 := hid (own_pg O67.out)
    go_wp2_with fail
    go_region_held3 (fun W => W.cell? ⟨ab, 1, none⟩ = some (.slice a4 P1.length c4) ∧ W.cell? ⟨bb, 1, none⟩ = some (.slice a5 D1.length c5))
      (first | exact ⟨x1, y1⟩ | (go_split_ands; exact ⟨by assumption, by assumption⟩))
      ((first | (go_at_call 18; refine (KC.out _ a4 c4 P1 Q4.out.drew HP40.out).mono ?_; rintro r w8 ⟨v8, rfl, ho8, hb⟩; have C8 := hid (drew_below hb); have x8 := keep1 C8.out x1; have y8 := keep1 C8.out y1; have O8 := hid ho8; clear hb ho8) | (go_at_call 18; refine (KC.out _ a5 c5 D1 (Q5.out.below C8.out) HD40.out).mono ?_; rintro r w9 ⟨v9, rfl, ho9, hb⟩; have C9 := hid hb; have x9 := keep1 hb x8; have y9 := keep1 hb y8; have O9 := hid ho9; clear hb ho9) | (go_at_call 18; refine (KC.out _ a6 c6 F (Q6.out.below (below_tr C8.out C9.out)) HF40.out).mono ?_; rintro r w10 ⟨v10, rfl, ho10, hb⟩; have C10 := hid hb; have x10 := keep1 hb x9; have y10 := keep1 hb y9; have O10 := hid ho10; clear hb ho10)))
    have C70 := hid (below_tr (below_tr C8.out C9.out) C10.out)
    have i9 := keep1 C70.out i1
    have f9 := keep1 C70.out f0
    have f9' := keep1 C70.out f1
    have O39 := hid (O3.out.below (below_tr C7.out C70.out))
    have O49 := hid (O47.out.below C70.out)
    have O59 := hid (O57.out.below C70.out)
    have O69 := hid (O67.out.below C70.out)
    have O89 := hid ((O8.out.below (below_tr C9.out C10.out)).lower (base' := wi.heap.size) C7.out.size)
    have O99 := hid ((O9.out.below C10.out).lower (base' := wi.heap.size) (Nat.le_trans C7.out.size C8.out.size))
    have O109 := hid (O10.out.lower (base' := wi.heap.size) (Nat.le_trans C7.out.size (Nat.le_trans C8.out.size C9.out.size)))
    have B9 : Hid (Below b0 w w10) := B3w.out.trans ((below_tr C7.out C70.out).mono (Nat.le_trans HGE.out (Nat.le_of_lt HGI.out)))
    obtain ⟨a8, c8, rfl, -⟩ := O89.out.at_
    obtain ⟨a9, c9, rfl, -⟩ := O99.out.at_
    obtain ⟨a10, c10, rfl, -⟩ := O109.out.at_
    have hBk := Blk.of O39.out
    have hg9 : g < w10.heap.size := (O39.out.lt g rfl).2
    have hcm := own_cap O39.out
    rw [show (X ++ [(⟨77, 0⟩ : Bd.Bk), ⟨77, 0⟩]).length = X.length + 2 by simp] at hcm
    have KX := hid (spoil_any w10 g X.length cp 77 0 hBk hg9 (Nat.le_trans (Nat.le_add_right _ 2) hcm.1) hcm.2)
    clear i1 f0 f1 x1 y1 x8 y8 x9 y9 C8 C9 C10 C7 O47 O57 O67 O8 O9 O10 O3 Q4 Q5 Q6 hBk hcm O39 B3w KC PI PA
    go_wp2_with fail
    refine KX.out.mono ?_
    rintro r w11 ⟨rfl, hgr⟩
    have x11 := hgr.cell x10 (own_apart HAB.out HGI.out)
    have y11 := hgr.cell y10 (own_apart HBB.out HGI.out)
    have GK := hid fun v Y (hO : OwnPg w10 wi.heap.size v Y) => hO.keep (w' := w11) fun q hq => hgr.block q (hO.lt q hq).2 (own_apart' (hO.lt q hq).1 HGI.out)
    have E1 := hid (GK.out _ _ O49.out)
    have E2 := hid (GK.out _ _ O59.out)
    have E3 := hid (GK.out _ _ O69.out)
    have E4 := hid (GK.out _ _ O89.out)
    have E5 := hid (GK.out _ _ O99.out)
    have E6 := hid (GK.out _ _ O109.out)
    have B10 : Hid (Below b0 w w11) := B9.out.grown hgr (by have := B9.out.size; have := HGE.out; exact Nat.le_trans HGE.out (Nat.le_of_lt hg9)) (fun q hq => by injection hq with hq; subst hq; exact HGE.out)
    have R1 := hid (KE'.out w11 a4 a8 c4 c8 P1 (own_pg E1.out) (own_pg E4.out) HP40.out)
    have R2 := hid fun W (hb : Below w11.heap.size w11 W) => KE'.out W a5 a9 c5 c9 D1 ((own_pg E2.out).below hb) ((own_pg E5.out).below hb) HD40.out
    have R3 := hid fun W (hb : Below w11.heap.size w11 W) => KE'.out W a6 a10 c6 c10 F ((own_pg E3.out).below hb) ((own_pg E6.out).below hb) HF40.out
    have HS11 : Hid (b0 ≤ w11.heap.size) := Nat.le_trans HGE.out (Nat.le_of_lt (Nat.lt_of_lt_of_le hg9 hgr.size))
    clear hgr x10 y10 i9 f9 f9' KX GK O49 O59 O69 O89 O99 O109 B9 C70 E1 E2 E3 E4 E5 E6 KE' hg9
    go_wp2_with fail
    refine R1.out.mono ?_
    rintro r w12 ⟨rfl, hb⟩
    have y12 := keep1 hb y11
    have C12 := hid hb
    clear hb x11 y11 R1
    go_wp2_with fail
    refine (R2.out _ C12.out).mono ?_
    rintro r w13 ⟨rfl, hb⟩
    have C13 := hid (below_tr C12.out hb)
    clear hb y12 R2 C12
    go_wp2_with fail
    refine (R3.out _ C13.out).mono ?_
    rintro r w14 ⟨rfl, hb⟩
    have C14 := hid (below_tr C13.out hb)
    clear hb R3 C13
    go_wp2_with fail
    go_ret
    exact ⟨rfl, by rw [hb0]; exact B10.out.trans (C14.out.mono HS11.out)⟩

end Go.Proofs.Ytodimkkgmidgcan.PBuddy
