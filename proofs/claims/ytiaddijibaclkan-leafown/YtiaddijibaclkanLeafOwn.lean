/- quirkeep.LeafOwn, walked: it answers true, and nothing that was there has turned. Conditions: how many slots there are, how long the texts are. -/
import Derived.Test.YtiaddijibaclkanLeafDrop
import Derived.Test.YtiaddijibaclkanLeafText
import Derived.Test.YtiaddijibaclkanLeafStays
import Derived.Test.YtiaddijibaclkanLeafSpoil
namespace Go.Proofs.Ytiaddijibaclkan.PLeaf
open Go Go.RowKit
set_option maxRecDepth 100000

def xb : ByteArray := ⟨#[120]⟩
theorem put_nil : Lf.put [] xb = ([⟨true, xb⟩], 0, 0) := by
  have h0 : Lf.check [] = 0 := by decide
  have h1 : Lf.check (Lf.putX [] xb) = 0 := by decide
  unfold Lf.put
  rw [if_pos h0, if_pos h1]
  rfl
theorem pg_nil (W : World) : PgIn W none [] := ⟨PgAt.nil _ _, by simp, fun x hx => by simp at hx⟩

/-- What is in a page that Put or Drop answers is few. -/
theorem put_few (X : List Lf.Sl) (t : ByteArray) : (Lf.put X t).1.length ≤ 40 := by
  unfold Lf.put
  split
  · split
    · rename_i h
      exact (Lf.check_ok h).1
    · simp
  · simp
theorem drop_few (X : List Lf.Sl) (k : Int) : (Lf.drop X k).1.length ≤ 40 := by
  unfold Lf.drop
  split
  · rename_i h
    have := (Lf.check_ok (Lf.get_hit h).1).1
    have h2 := Lf.trim_len (X.set k.toNat Lf.none')
    rw [List.length_set] at h2
    show (Lf.dropX X k.toNat).length ≤ 40
    unfold Lf.dropX
    omega
  · simp

theorem own_pg {w : World} {base : Nat} {a : Option Addr} {n c : Nat} {X : List Lf.Sl} (h : OwnPg w base (.slice a n c) X) : PgAt w a X := by
  obtain ⟨a', c', e, hp, _⟩ := h.at_
  have ea : a = a' := by injection e
  rw [ea]; exact hp
theorem own_cap {w : World} {base : Nat} {a : Option Addr} {n c : Nat} {X : List Lf.Sl} (h : OwnPg w base (.slice a n c) X) : X.length ≤ c ∧ c ≤ maxLen := by
  obtain ⟨a', c', e, _, _, h1, h2⟩ := h.at_
  have ec : c = c' := by injection e
  rw [ec]; exact ⟨h1, h2⟩
theorem keep1 {W W' : World} {q : Addr} {v : Value} (hb : Below W.heap.size W W') (h : W.cell? q = some v) : W'.cell? q = some v := (hb.cell (World.block_lt_of_cell? W _ h)).trans h

set_option maxHeartbeats 8000000 in
theorem own_walk (w : World) (a : Option Addr) (c : Nat) (X : List Lf.Sl) (t : ByteArray) (k : Int) (h : PgIn w a X) (hn : X.length * 24 ≤ 140737488351232) (hc : a = none → c = 0) (ht : t.size ≤ 140737488355328) :
    Calls Try.prog 3 #[.agg #[.slice a X.length c], .string t, .int .i64 k] w fun e w' => e = .returned (.bool true) ∧ Below w.heap.size w w' := by
  have K0 := hid fun W => put_any W none 0 [] xb (pg_nil W) (by show 1 ≤ _; omega)
  rw [put_nil] at K0
  have KA := hid fun W (hW : PgAt W a X) => ample_any W a c X true ⟨#[33]⟩ hW hc hn
  have KP := hid fun W a' c' (hW : PgIn W a' X) => put_any W a' c' X t hW ht
  have KD := hid fun W a' c' (hW : PgIn W a' X) => drop_any W a' c' X k hW
  have KT := hid fun W a' c' (hW : PgIn W a' X) => text_any W a' c' X hW
  have KS := hid fun W base g cp (hW : OwnPg W base (.slice (some ⟨g, 0, none⟩) (X.length + 2) cp) (X ++ [⟨true, ⟨#[33]⟩⟩, ⟨true, ⟨#[33]⟩⟩])) (hW2 : PgAt W a X) => stays_any W base g cp a c X true ⟨#[33]⟩ hW hW2 hn
  have hp40 := put_few X t
  have hd40 := drop_few X k
  generalize Lf.put X t = P at *
  generalize Lf.drop X k = D at *
  generalize Lf.text X = TX at *
  generalize Lf.check X = CX at *
  obtain ⟨P1, P2, P3⟩ := P
  obtain ⟨D1, D2⟩ := D
  simp only at hp40 hd40 KP KD
  have KC := hid fun W a' c' (Y : List Lf.Sl) (hW : PgAt W a' Y) (hY : Y.length ≤ 40) => pgClone_any W a' c' Y hW (by omega)
  have KE := hid fun W a1 a2 c1 c2 (Y : List Lf.Sl) (hW1 : PgAt W a1 Y) (hW2 : PgAt W a2 Y) (hY : Y.length ≤ 40) => equal_any W a1 a2 c1 c2 Y Y hW1 hW2 (by omega) (by omega)
  have H := hid h
  have hl' : (X.length : Int) ≤ 5864062014634 := by omega
  clear h
  go_enter Try.func3, Try.ntmps3
  go_wp2_with fail
  refine (K0.out _).mono ?_
  rintro r w1 ⟨v1, rfl, ho1, hb⟩
  obtain ⟨g1, c1, rfl, _⟩ := ho1.some (by simp)
  have B1 := hid (below_tr (below_tr hb (bx w1 (.cells #[.slice (some ⟨g1, 0, none⟩) 1 c1] 24))) (bx _ (.cells #[.bool true, .string ⟨#[33]⟩] 29)))
  have c0 := box1 B1.out
  obtain ⟨f0, f1⟩ := box2 (Below.refl ((w1.alloc (.cells #[.slice (some ⟨g1, 0, none⟩) 1 c1] 24)).alloc (.cells #[.bool true, .string ⟨#[33]⟩] 29)).heap.size ((w1.alloc (.cells #[.slice (some ⟨g1, 0, none⟩) 1 c1] 24)).alloc (.cells #[.bool true, .string ⟨#[33]⟩] 29)))
  rw [World.size_alloc] at f0 f1
  clear hb K0 ho1
  go_wp2_with fail
  have P1a := H.out.below (below_tr (bx _ _) B1.out)
  generalize hfb : w1.heap.size + 1 = fb at *
  generalize (w1.alloc (.cells #[.slice (some ⟨g1, 0, none⟩) 1 c1] 24)).alloc (.cells #[.bool true, .string ⟨#[33]⟩] 29) = wf at *
  clear hfb
  have PF := hid P1a
  clear P1a
  refine (KA.out _ PF.out.at_).mono ?_
  rintro r w3 ⟨g, cp, rfl, ho3, hb⟩
  obtain ⟨pf3, hcp3, hg3, hge3⟩ := Amp.front ho3
  have hb' := below_tr hb (bx w3 (.cells #[.slice (some ⟨g, 0, none⟩) X.length cp] 24))
  have i0 := box1 (Below.refl (w3.alloc (.cells #[.slice (some ⟨g, 0, none⟩) X.length cp] 24)).heap.size (w3.alloc (.cells #[.slice (some ⟨g, 0, none⟩) X.length cp] 24)))
  replace c0 := keep1 hb' c0
  replace f0 := keep1 hb' f0
  replace f1 := keep1 hb' f1
  have B3 := hid (below_tr B1.out hb')
  have O3 := hid (ho3.below (bx w3 (.cells #[.slice (some ⟨g, 0, none⟩) X.length cp] 24)))
  have PI : Hid (PgIn (w3.alloc (.cells #[.slice (some ⟨g, 0, none⟩) X.length cp] 24)) (some ⟨g, 0, none⟩) X) := ⟨pf3.below (bx _ _), PF.out.len, PF.out.txs⟩
  have PA := hid (PF.out.below hb')
  have hgi : g < (w3.alloc (.cells #[.slice (some ⟨g, 0, none⟩) X.length cp] 24)).heap.size := by rw [World.size_alloc]; omega
  have HGE : Hid (w.heap.size ≤ g) := by
    have h1 := B1.out.size
    rw [World.size_alloc] at h1
    show w.heap.size ≤ g
    omega
  clear hb hb' ho3 pf3 hg3 hge3 B1 PF KA
  go_wp2_with fail
  generalize hib : w3.heap.size = ib at *
  generalize w3.alloc (.cells #[.slice (some ⟨g, 0, none⟩) X.length cp] 24) = wi at *
  clear hib
  have HGI := hid hgi
  clear hgi
  refine (KP.out _ _ _ PI.out).mono ?_
  rintro r w4 ⟨v4, rfl, ho4, hb⟩
  obtain ⟨a4, c4, rfl, _⟩ := ho4.at_
  have hb' := below_tr hb (bx w4 (.cells #[.slice a4 P1.length c4] 24))
  have x0 := box1 (Below.refl (w4.alloc (.cells #[.slice a4 P1.length c4] 24)).heap.size (w4.alloc (.cells #[.slice a4 P1.length c4] 24)))
  replace c0 := keep1 hb' c0
  replace f0 := keep1 hb' f0
  replace f1 := keep1 hb' f1
  replace i0 := keep1 hb' i0
  have C4 := hid hb'
  have HAB : Hid (wi.heap.size ≤ w4.heap.size) := hb.size
  have O4 := hid (ho4.keepAlloc (.cells #[.slice a4 P1.length c4] 24))
  clear hb hb' ho4 KP
  go_wp2_with fail
  generalize hab : w4.heap.size = ab at *
  generalize w4.alloc (.cells #[.slice a4 P1.length c4] 24) = wa at *
  clear hab
  refine (KD.out _ _ _ (PI.out.below C4.out)).mono ?_
  rintro r w5 ⟨v5, rfl, ho5, hb⟩
  obtain ⟨a5, c5, rfl, _⟩ := ho5.at_
  have hb' := below_tr hb (bx w5 (.cells #[.slice a5 D1.length c5] 24))
  have y0 := box1 (Below.refl (w5.alloc (.cells #[.slice a5 D1.length c5] 24)).heap.size (w5.alloc (.cells #[.slice a5 D1.length c5] 24)))
  replace c0 := keep1 hb' c0
  replace f0 := keep1 hb' f0
  replace f1 := keep1 hb' f1
  replace i0 := keep1 hb' i0
  replace x0 := keep1 hb' x0
  have C5 := hid (below_tr C4.out hb')
  have HBB : Hid (wi.heap.size ≤ w5.heap.size) := Nat.le_trans C4.out.size hb.size
  have O45 := hid (O4.out.below hb')
  have O5 := hid ((ho5.keepAlloc (.cells #[.slice a5 D1.length c5] 24)).lower C4.out.size)
  clear hb hb' ho5 KD O4 C4
  go_wp2_with fail
  generalize hbb : w5.heap.size = bb at *
  generalize w5.alloc (.cells #[.slice a5 D1.length c5] 24) = wb at *
  clear hbb
  refine (KT.out _ _ _ (PI.out.below C5.out)).mono ?_
  rintro r w6 ⟨rfl, hb⟩
  replace c0 := keep1 hb c0
  replace f0 := keep1 hb f0
  replace f1 := keep1 hb f1
  replace i0 := keep1 hb i0
  replace x0 := keep1 hb x0
  replace y0 := keep1 hb y0
  have C6 := hid (below_tr C5.out hb)
  have O46 := hid (O45.out.below hb)
  have O56 := hid (O5.out.below hb)
  clear hb KT O45 O5 C5
  go_wp2_with fail
  refine (KS.out _ _ _ _ (O3.out.below C6.out) (PA.out.below C6.out).at_).mono ?_
  rintro r w7 ⟨rfl, hb⟩
  replace i0 := keep1 hb i0
  replace x0 := keep1 hb x0
  replace y0 := keep1 hb y0
  have C7 := hid (below_tr C6.out hb)
  have O47 := hid (O46.out.below hb)
  have O57 := hid (O56.out.below hb)
  clear hb KS O46 O56 C6 c0 f0 f1
  have Q4 := hid (own_pg O47.out)
  have Q5 := hid (own_pg O57.out)
  go_wp2_with fail
  go_region_held3 (fun W => W.cell? ⟨ab, 0, none⟩ = some (.slice a4 P1.length c4) ∧ W.cell? ⟨bb, 0, none⟩ = some (.slice a5 D1.length c5))
    (first | exact ⟨x0, y0⟩ | (go_split_ands; exact ⟨by assumption, by assumption⟩))
    ((first | (go_at_call 9; refine (KC.out _ a4 c4 P1 Q4.out.drew hp40).mono ?_; rintro r w8 ⟨v8, rfl, ho8, hb⟩; have C8 := hid (drew_below hb); have x8 := keep1 C8.out x0; have y8 := keep1 C8.out y0; have O8 := hid ho8; clear hb ho8) | (go_at_call 9; refine (KC.out _ a5 c5 D1 (Q5.out.below C8.out) hd40).mono ?_; rintro r w9 ⟨v9, rfl, ho9, hb⟩; have C9 := hid hb; have x9 := keep1 hb x8; have y9 := keep1 hb y8; have O9 := hid ho9; clear hb ho9)))
  have i9 := keep1 C9.out (keep1 C8.out i0)
  have C79 := hid (below_tr C8.out C9.out)
  have O39 := hid (O3.out.below (below_tr C7.out C79.out))
  have O49 := hid (O47.out.below C79.out)
  have O59 := hid (O57.out.below C79.out)
  have O89 := hid ((O8.out.below C9.out).lower (base' := wi.heap.size) C7.out.size)
  have O99 := hid (O9.out.lower (base' := wi.heap.size) (Nat.le_trans C7.out.size C8.out.size))
  have B9 := hid (below_tr (below_tr B3.out C7.out) C79.out)
  obtain ⟨a8, c8, rfl, _⟩ := O89.out.at_
  obtain ⟨a9, c9, rfl, _⟩ := O99.out.at_
  have hBk := Blk.of O39.out
  have hg9 : g < w9.heap.size := (O39.out.lt g rfl).2
  have hcm := own_cap O39.out
  rw [show (X ++ [(⟨true, ⟨#[33]⟩⟩ : Lf.Sl), ⟨true, ⟨#[33]⟩⟩]).length = X.length + 2 by simp] at hcm
  have KX := hid (spoil_any w9 g X.length cp false ⟨#[]⟩ hBk hg9 (by omega) hcm.2)
  clear i0 x0 y0 x8 y8 C8 C9 C7 O47 O57 O8 O9 O3 Q4 Q5 hBk hcm O39 B3 KC PI PA
  go_wp2_with fail
  refine KX.out.mono ?_
  rintro r w10 ⟨rfl, hgr⟩
  have x10 := hgr.cell x9 (by intro e; injection e with e; have h1 := HAB.out; have h2 := HGI.out; dsimp only at e; omega)
  have y10 := hgr.cell y9 (by intro e; injection e with e; have h1 := HBB.out; have h2 := HGI.out; dsimp only at e; omega)
  have GK := hid fun v Y (hO : OwnPg w9 wi.heap.size v Y) => hO.keep (w' := w10) fun q hq => hgr.block q (hO.lt q hq).2 (by intro e; injection e with e; have h1 := (hO.lt q hq).1; have h2 := HGI.out; omega)
  have E1 := hid (GK.out _ _ O49.out)
  have E2 := hid (GK.out _ _ O59.out)
  have E3 := hid (GK.out _ _ O89.out)
  have E4 := hid (GK.out _ _ O99.out)
  have B10 : Hid (Below w.heap.size w w10) := (below_tr (bx _ _) B9.out).grown hgr (below_tr (bx _ _) B9.out).size (fun q hq => by injection hq with hq; subst hq; exact HGE.out)
  have R1 := hid (KE.out w10 a4 a8 c4 c8 P1 (own_pg E1.out) (own_pg E3.out) hp40)
  have R2 := hid fun W (hb : Below w10.heap.size w10 W) => KE.out W a5 a9 c5 c9 D1 ((own_pg E2.out).below hb) ((own_pg E4.out).below hb) hd40
  clear hgr x9 y9 i9 KX GK O49 O59 O89 O99 B9 C79 E1 E2 E3 E4 KE
  go_wp2_with fail
  refine R1.out.mono ?_
  rintro r w11 ⟨q, rfl, hq, hb⟩
  obtain rfl : q = true := by simpa using hq
  have y11 := keep1 hb y10
  have C11 := hid hb
  clear hb hq x10 y10 R1
  go_wp2_with fail
  refine (R2.out _ C11.out).mono ?_
  rintro r w12 ⟨q, rfl, hq, hb⟩
  obtain rfl : q = true := by simpa using hq
  have C12 := hid (below_tr C11.out hb)
  clear hb hq y11 R2
  go_wp2_with fail
  go_ret
  exact ⟨rfl, B10.out.trans (C12.out.mono B10.out.size)⟩

end Go.Proofs.Ytiaddijibaclkan.PLeaf
