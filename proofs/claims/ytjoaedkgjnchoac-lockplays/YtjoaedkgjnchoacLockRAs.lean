/- quirref.asked, walked: the item with the lock given, or in the queue; nothing that was there has turned. Conditions: the item's locks are right and lie where their slices say; how many there are. -/
import Derived.Test.YtjoaedkgjnchoacLockRGv
import Derived.Test.YtjoaedkgjnchoacLockAsk
import Derived.Test.YtjoaedkgjnchoacLockClo
namespace Go.Proofs.Ytjoaedkgjnchoac.PLock
open Go Go.RowKit PPool
set_option maxRecDepth 100000

/-- The queue with the lock in its place. -/
def Lk.placed (H Q : List Lk.Lo) (l : Lk.Lo) : List Lk.Lo := Q.take (Lk.spot H Q l.x) ++ l :: Q.drop (Lk.spot H Q l.x)
theorem LsAt.lk {w : World} {a : Option Addr} {n c : Nat} {L : List Lk.Lo} (h : LsAt w (.slice a n c) L) : LkAt w a L := by
  obtain ⟨a', c', e, h1, _⟩ := h
  injection e with e1 e2 e3
  rw [e1]; exact h1

/-- The list as it was, or one in a row of its own. -/
def OrOwn (w w' : World) (v v' : Value) (L L' : List Lk.Lo) : Prop := (v' = v ∧ L' = L) ∨ OwnLk w' w.heap.size v' L'

/-- The item's queue laid over, and the item as the answer. -/
theorem fin_asked {w wc : World} {B : Nat} {i : Int} {vh vq : Value} (hB : B = w.heap.size) (hBc : B + 1 + 1 < wc.heap.size) (hb : Below w.heap.size w wc)
    (hA : ∀ W, Below wc.heap.size wc W → ArrAt W B #[.int .i64 i, vh, vq] ∧ ArrAt W (B + 1 + 1) #[.int .i64 0, .slice none 0 0, .slice none 0 0])
    (X : List Lk.Lo) (v : Value) (W : World) (hW : Below wc.heap.size wc W) (ho : OwnLk W wc.heap.size v X) :
    ArrAt ((((W.setCell ⟨B, 2, none⟩ v).setCell ⟨B + 1 + 1, 0, none⟩ (.int .i64 i)).setCell ⟨B + 1 + 1, 1, none⟩ vh).setCell ⟨B + 1 + 1, 2, none⟩ v) (B + 1 + 1) #[.int .i64 i, vh, v] ∧
    OwnLk ((((W.setCell ⟨B, 2, none⟩ v).setCell ⟨B + 1 + 1, 0, none⟩ (.int .i64 i)).setCell ⟨B + 1 + 1, 1, none⟩ vh).setCell ⟨B + 1 + 1, 2, none⟩ v) w.heap.size v X ∧
    Below w.heap.size w ((((W.setCell ⟨B, 2, none⟩ v).setCell ⟨B + 1 + 1, 0, none⟩ (.int .i64 i)).setCell ⟨B + 1 + 1, 1, none⟩ vh).setCell ⟨B + 1 + 1, 2, none⟩ v) ∧
    ((W.setCell ⟨B, 2, none⟩ v).cell? ⟨B, 0, none⟩ = some (.int .i64 i) ∧ (W.setCell ⟨B, 2, none⟩ v).cell? ⟨B, 1, none⟩ = some vh ∧ (W.setCell ⟨B, 2, none⟩ v).cell? ⟨B, 2, none⟩ = some v ∧
     ((W.setCell ⟨B, 2, none⟩ v).frozen? ⟨B + 1 + 1, 0, none⟩ = false ∧ (W.setCell ⟨B, 2, none⟩ v).frozen? ⟨B + 1 + 1, 1, none⟩ = false ∧ (W.setCell ⟨B, 2, none⟩ v).frozen? ⟨B + 1 + 1, 2, none⟩ = false ∧ ∃ x y z, (W.setCell ⟨B, 2, none⟩ v).cell? ⟨B + 1 + 1, 0, none⟩ = some x ∧ (W.setCell ⟨B, 2, none⟩ v).cell? ⟨B + 1 + 1, 1, none⟩ = some y ∧ (W.setCell ⟨B, 2, none⟩ v).cell? ⟨B + 1 + 1, 2, none⟩ = some z)) := by
  obtain ⟨h1, h2⟩ := hA W hW
  have g1 := (h1.put3 v).2
  have g2 : ArrAt (W.setCell ⟨B, 2, none⟩ v) (B + 1 + 1) #[.int .i64 0, .slice none 0 0, .slice none 0 0] := h2.keep (Below.heap_setCell _ ⟨B, 2, none⟩ _ _ (by show B + 1 + 1 ≠ B; omega))
  obtain ⟨y0, y1, y2, x0, x1, x2⟩ := g2.all3
  obtain ⟨z0, z1, z2, _⟩ := g1.all3
  have bel : Below w.heap.size w ((((W.setCell ⟨B, 2, none⟩ v).setCell ⟨B + 1 + 1, 0, none⟩ (.int .i64 i)).setCell ⟨B + 1 + 1, 1, none⟩ vh).setCell ⟨B + 1 + 1, 2, none⟩ v) :=
    ((((below_tr hb hW).setCell (p := ⟨B, 2, none⟩) (by show _ ≤ B; omega) _).setCell (p := ⟨B + 1 + 1, 0, none⟩) (by show _ ≤ B + 1 + 1; omega) _).setCell (p := ⟨B + 1 + 1, 1, none⟩) (by show _ ≤ B + 1 + 1; omega) _).setCell (p := ⟨B + 1 + 1, 2, none⟩) (by show _ ≤ B + 1 + 1; omega) _
  refine ⟨((g2.put 0 _).put 1 _).put 2 _, ?_, bel, z0, z1, z2, x0, x1, x2, _, _, _, y0, y1, y2⟩
  refine (ho.keep fun g hg => ?_).lower hb.size
  have := (ho.lt g hg).1
  rw [Below.heap_setCell _ ⟨B + 1 + 1, 2, none⟩ _ _ (by show g ≠ B + 1 + 1; omega), Below.heap_setCell _ ⟨B + 1 + 1, 1, none⟩ _ _ (by show g ≠ B + 1 + 1; omega), Below.heap_setCell _ ⟨B + 1 + 1, 0, none⟩ _ _ (by show g ≠ B + 1 + 1; omega), Below.heap_setCell _ ⟨B, 2, none⟩ _ _ (by show g ≠ B; omega)]

set_option maxHeartbeats 8000000 in
theorem asked_any (w : World) (i : Int) (vh vq : Value) (H Q : List Lk.Lo) (l : Lk.Lo) (hH : LsAt w vh H) (hQ : LsAt w vq Q) (hR : Lk.Rights H) (hm : Lk.mode l.m = true) (lH : H.length ≤ 2000) (lQ : Q.length ≤ 2000) :
    Calls Try.prog 45 #[.agg #[.int .i64 i, vh, vq], .agg #[.int .i64 l.x, .int .i64 l.m]] w fun e w' => ∃ vh' vq', e = .returned (.tuple #[.agg #[.int .i64 i, vh', vq'], .bool (Lk.now ⟨i, H, Q⟩ l)]) ∧ OrOwn w w' vh vh' H (Lk.ask ⟨i, H, Q⟩ l).h ∧ OrOwn w w' vq vq' Q (Lk.ask ⟨i, H, Q⟩ l).q ∧ Below w.heap.size w w' := by
  have HH := hid hH
  have HQ := hid hQ
  obtain ⟨ah, ch, rfl, ph, lh1, lh2, _⟩ := hH
  obtain ⟨aq, cq, rfl, pq, lq1, lq2, _⟩ := hQ
  have PH := hid ph
  have PQ := hid pq
  have KC := hid fun W hW => rcan_any W (.int .i64 i) ah ch H aq Q.length cq l ⟨i, rfl⟩ (ph.below hW) (by omega) (fun x hx => hR.mode hx) hm
  have KH := hid fun W hW x => rholds_any W ah ch H x (ph.below hW) (by omega)
  have KG := hid fun W hW => given_any W i (.slice ah H.length ch) aq Q.length cq H l (HH.out.below hW) hR hm lH
  have HMD := hid fun t => Lk.md_pos hR t
  have HA1 : Hid (Lk.now ⟨i, H, Q⟩ l = true → Lk.ask ⟨i, H, Q⟩ l = ⟨i, Lk.give H l, Q⟩) := fun h => by unfold Lk.ask; rw [if_pos h]
  have HA2 : Hid (Lk.now ⟨i, H, Q⟩ l = false → Lk.ask ⟨i, H, Q⟩ l = ⟨i, H, Lk.placed H Q l⟩) := fun h => by unfold Lk.ask Lk.placed; rw [if_neg (by rw [h]; simp)]
  have HY := hid (show Lk.now ⟨i, H, Q⟩ l = (Lk.can H l && (Lk.has H l.x || Q.isEmpty)) from rfl)
  have HE : Q.isEmpty = ((Q.length : Int) == 0) := by
    cases Q with
    | nil => rfl
    | cons a Q => symm; simp; omega
  rw [HE] at HY
  obtain ⟨A, hA⟩ : ∃ A, A = Lk.ask ⟨i, H, Q⟩ l := ⟨_, rfl⟩
  obtain ⟨y, hy⟩ : ∃ y, y = Lk.now ⟨i, H, Q⟩ l := ⟨_, rfl⟩
  rw [← hA, ← hy] at HA1 HA2
  rw [← hy] at HY
  rw [← hA, ← hy]
  obtain ⟨t, m⟩ := l
  simp only at KC KG HY ⊢
  clear hA hy HE ph pq lh1 lh2 lq1 lq2 hm hR
  have HS : Hid (Lk.spot H Q t = if Lk.has H t then Lk.front H Q else Q.length) := rfl
  have HSl : Hid (Lk.spot H Q t ≤ Q.length) := Lk.spot_le H Q t
  have HP : Hid (Lk.placed H Q ⟨t, m⟩ = Q.take (Lk.spot H Q t) ++ ⟨t, m⟩ :: Q.drop (Lk.spot H Q t)) := rfl
  have HM0 := hid (HMD.out t)
  obtain ⟨n, hn⟩ : ∃ n, n = Q.length := ⟨_, rfl⟩
  obtain ⟨nh, hnh⟩ : ∃ n, n = H.length := ⟨_, rfl⟩
  rw [← hn] at KC KG HY HS HSl HQ ⊢
  rw [← hnh] at KC KH KG HH ⊢
  have HN := hid hn
  have HNH := hid hnh
  have n2 : (n : Int) ≤ 2000 := by omega
  have nh2 : (nh : Int) ≤ 2000 := by omega
  have lQ2 := hid lQ
  clear hn hnh lH lQ
  obtain ⟨B, hB⟩ : ∃ B, B = w.heap.size := ⟨_, rfl⟩
  obtain ⟨W0, hW0⟩ : ∃ W0, W0 = ((w.alloc (.cells #[.int .i64 i, .slice ah nh ch, .slice aq n cq] 57)).alloc (.cells #[.int .i64 t, .int .i64 m] 65)).alloc (.cells #[.int .i64 0, .slice none 0 0, .slice none 0 0] 57) := ⟨_, rfl⟩
  have B0 : Hid (Below w.heap.size w W0) := by show Below _ _ _; rw [hW0]; exact below_tr (bx _ _) (below_tr (bx _ _) (bx _ _))
  have C0 : Hid (∀ W, Below W0.heap.size W0 W → (W.cell? ⟨B, 0, none⟩ = some (.int .i64 i) ∧ W.cell? ⟨B, 1, none⟩ = some (.slice ah nh ch) ∧ W.cell? ⟨B, 2, none⟩ = some (.slice aq n cq) ∧ W.cell? ⟨B + 1, 0, none⟩ = some (.int .i64 t) ∧ W.cell? ⟨B + 1, 1, none⟩ = some (.int .i64 m)) ∧ ArrAt W B #[.int .i64 i, .slice ah nh ch, .slice aq n cq] ∧ ArrAt W (B + 1 + 1) #[.int .i64 0, .slice none 0 0, .slice none 0 0]) := fun W hW => by
    rw [hW0] at hW
    refine ⟨?_, ?_, ?_⟩
    · rw [hB]; exact bx2 (below_tr (bx _ _) hW)
    · have := (ArrAt.new w #[.int .i64 i, .slice ah nh ch, .slice aq n cq] 57).below (below_tr (bx _ (.cells #[.int .i64 t, .int .i64 m] 65)) (below_tr (bx _ _) hW))
      rw [hB]; exact this
    · have := (ArrAt.new ((w.alloc (.cells #[.int .i64 i, .slice ah nh ch, .slice aq n cq] 57)).alloc (.cells #[.int .i64 t, .int .i64 m] 65)) #[.int .i64 0, .slice none 0 0, .slice none 0 0] 57).below hW
      simpa [hB] using this
  have HW0 := hid hW0
  have HB := hid hB
  clear hW0
  go_enter Try.func45, Try.ntmps45
  go_upto_region 1 with fail
  rw [← HW0.out, ← hB]
  clear HW0 hB
  obtain ⟨⟨c0, c1, c2, c3, c4⟩, _⟩ := C0.out _ (Below.refl _ _)
  obtain ⟨hs, hhs⟩ : ∃ hs, hs = Lk.has H t := ⟨_, rfl⟩
  rw [← hhs] at HS HY HM0
  have KH0 := hid fun W hW => KH.out W hW t
  generalize Lk.md H t = md at *
  clear hhs
  go_cut [6] from 8 to 13 (fun v6 wx => v6 = .bool hs ∧ Hid (Below W0.heap.size W0 wx))
  case first =>
    have p1 : decide (md > 0) = hs := HM0.out
    have p2 : decide (0 < md) = hs := HM0.out
    cases hs with
    | false =>
      have p3 : ¬ 0 < md := by simpa using p2
      go_wp2_with fail
      refine (KH0.out _ B0.out).mono ?_
      rintro r w1 ⟨rfl, hb1⟩
      have B1 := hid hb1
      clear hb1
      go_wp2_with fail
      go_meet
      exact ⟨rfl, B1⟩
    | true =>
      have p3 : 0 < md := by simpa using p2
      go_wp2_with fail
      refine (KH0.out _ B0.out).mono ?_
      rintro r w1 ⟨rfl, hb1⟩
      have B1 := hid hb1
      clear hb1
      go_wp2_with fail
      go_meet
      exact ⟨rfl, B1⟩
  case rest =>
   obtain ⟨rfl, hX⟩ := hcut
   clear KH0 HM0 c0 c1 c2 c3 c4
   obtain ⟨⟨c0, c1, c2, c3, c4⟩, _⟩ := C0.out _ hX.out
   go_upto_region 2 with fail
   go_cut [25] from 14 to 25 (fun v wx => v = .bool y ∧ Hid (Below W0.heap.size W0 wx))
   case first =>
    have HYo := HY.out
    obtain ⟨cn, hcn⟩ : ∃ cn, cn = Lk.can H ⟨t, m⟩ := ⟨_, rfl⟩
    rw [← hcn] at KC HYo
    clear hcn
    cases cn with
    | false =>
      have hyf : y = false := by rw [HYo]; rfl
      subst hyf
      clear HYo
      go_wp2_with fail
      refine (KC.out _ (below_tr B0.out hX.out)).mono ?_
      rintro r w2 ⟨rfl, hb2⟩
      have B2 := hid (below_tr hX.out hb2)
      clear hb2
      go_wp2_with fail
      go_meet
      exact ⟨rfl, B2⟩
    | true =>
      cases hs with
      | false =>
        have hyf : ((n : Int) == 0) = y := by rw [HYo]; rfl
        clear HYo
        go_wp2_with fail
        refine (KC.out _ (below_tr B0.out hX.out)).mono ?_
        rintro r w2 ⟨rfl, hb2⟩
        have B2 := hid (below_tr hX.out hb2)
        clear c0 c1 c2 c3 c4
        obtain ⟨⟨c0, c1, c2, c3, c4⟩, _⟩ := C0.out _ B2.out
        clear hb2
        go_wp2_with fail
        go_meet
        exact ⟨by rw [← hyf], B2⟩
      | true =>
        have hyt : y = true := by rw [HYo]; rfl
        subst hyt
        clear HYo
        go_wp2_with fail
        refine (KC.out _ (below_tr B0.out hX.out)).mono ?_
        rintro r w2 ⟨rfl, hb2⟩
        have B2 := hid (below_tr hX.out hb2)
        clear hb2
        go_wp2_with fail
        go_meet
        exact ⟨rfl, B2⟩
   case rest =>
    clear hX
    obtain ⟨rfl, hX⟩ := hcut
    have BW := hid (below_tr B0.out hX.out)
    clear KC HY c0 c1 c2 c3 c4
    obtain ⟨⟨c0, c1, c2, c3, c4⟩, _⟩ := C0.out _ hX.out
    cases y with
    | true =>
      have HA := hid (HA1.out rfl)
      clear HA1 HA2 HS HSl HP
      go_wp2_with fail
      refine (KG.out _ BW.out).mono ?_
      rintro r w3 ⟨vh', rfl, o3, hb3⟩
      have B3 := hid (below_tr BW.out hb3)
      obtain ⟨_, _, ha⟩ := C0.out _ (below_tr hX.out hb3)
      obtain ⟨y0, y1, y2, x0, x1, x2⟩ := ha.all3
      have hB3 : w.heap.size ≤ B + 1 + 1 := by rw [← HB.out]; omega
      have hBc : B + 1 + 1 < wc.heap.size := (C0.out _ hX.out).2.2.lt
      have O3 : Hid (OwnLk w3 (B + 1 + 1 + 1) vh' (Lk.give H ⟨t, m⟩)) := o3.lower (by omega)
      obtain ⟨a3, c3', e3, _⟩ := o3.at_
      generalize (Lk.give H ⟨t, m⟩).length = n3 at *
      subst e3
      clear hb3 o3 c0 c1 c2 c3 c4
      go_wp2_with fail
      refine bodyPost_ret ((((ha.put 0 _).put 1 _).put 2 _).result2 rfl rfl Try.underlying57 rfl rfl rfl) rfl ⟨_, _, rfl, ?_, ?_, ?_⟩
      · rw [HA.out]
        refine .inr ((O3.out.keep fun g hg => ?_).lower (by omega))
        have := (O3.out.lt g hg).1
        rw [Below.heap_setCell _ ⟨B + 1 + 1, 2, none⟩ _ _ (by show g ≠ B + 1 + 1; omega), Below.heap_setCell _ ⟨B + 1 + 1, 1, none⟩ _ _ (by show g ≠ B + 1 + 1; omega), Below.heap_setCell _ ⟨B + 1 + 1, 0, none⟩ _ _ (by show g ≠ B + 1 + 1; omega)]
      · rw [HA.out]
        exact .inl ⟨rfl, rfl⟩
      · exact ((B3.out.setCell (p := ⟨B + 1 + 1, 0, none⟩) hB3 _).setCell (p := ⟨B + 1 + 1, 1, none⟩) hB3 _).setCell (p := ⟨B + 1 + 1, 2, none⟩) hB3 _
    | false =>
      have HA := hid (HA2.out rfl)
      clear HA1 HA2 KG
      go_upto_if 32 with fail
      go_cut [7] from 33 to 51 (fun v7 wx => v7 = .int .i64 (Lk.spot H Q t : Int) ∧ Hid (Below W0.heap.size W0 wx))
      case first =>
        cases hs with
        | false =>
          have HS : Hid (Lk.spot H Q t = n) := HS.out
          go_wp2_with fail
          go_meet
          exact ⟨by rw [HS.out], hX⟩
        | true =>
          have HS : Hid (Lk.spot H Q t = Lk.front H Q) := HS.out
          go_wp2_with fail
          clear c0 c1 c2 c3 c4
          go_loopw [7] (fun u wr => ∃ k : Nat, k ≤ n ∧ u = .int .i64 (k : Int) ∧ Hid (Lk.spot H Q t = k + Lk.front H (Q.drop k)) ∧ Hid (Below W0.heap.size W0 wr)) (fun u _ => n - (intOf u).toNat)
          case atStart => exact ⟨0, Nat.zero_le _, rfl, by show _ = _; rw [HS.out]; simp, hX.out⟩
          case round =>
            obtain ⟨k, hk, rfl, hO, hb⟩ := hrel
            obtain ⟨⟨c0, c1, c2, c3, c4⟩, _⟩ := C0.out _ hb.out
            have HH2 : Hid (∀ q, Q[k]? = some q → Lk.front H (Q.drop k) = if Lk.has H q.x then Lk.front H (Q.drop (k + 1)) + 1 else 0) := fun q hq => front_at (H := H) hq
            by_cases hlt : k < n
            · obtain ⟨q, hq⟩ : ∃ q, Q[k]? = some q := ⟨_, List.getElem?_eq_getElem (by have := HN.out; omega)⟩
              obtain ⟨b, o, rfl, d1, d2⟩ := (PQ.out.below (below_tr B0.out hb.out)) k q hq
              have k0 : (0 : Int) ≤ (k : Int) := by omega
              have k1 : (k : Int) < (n : Int) := by omega
              have k2 : decide ((k : Int) < (n : Int)) = true := by simpa using k1
              have HF := hid (HH2.out q hq)
              have K2 := hid fun W hW => KH.out W hW q.x
              have SB : Hid (∀ W, Below wr.heap.size wr W → W.cell? ⟨B, 1, none⟩ = some (.slice ah nh ch) ∧ W.cell? ⟨B, 2, none⟩ = some (.slice (some ⟨b, o, none⟩) n cq) ∧ W.cell? ⟨b, o + k * 2, none⟩ = some (.int .i64 q.x)) := fun W hW => ⟨keep1 hW c1, keep1 hW c2, keep1 hW d1⟩
              have hmd := HMD.out q.x
              clear hq HH2
              generalize q.x = qx at *
              generalize Lk.md H qx = md2 at *
              generalize hgg : Lk.has H qx = g at *
              clear hgg
              have p1 : decide (md2 > 0) = g := hmd
              have BD : Below wr.heap.size wr wr.drew := (Below.refl _ _).drew
              clear c0 c1 c2 c3 c4 d1 d2
              go_upto_region 7 with fail
              go_cut [49] from 33 to 49 (fun r wx => r = .bool g ∧ Hid (Below wr.heap.size wr wx))
              case first =>
                refine wp_region_held_drew (S := fun W => W.cell? ⟨B, 1, none⟩ = some (.slice ah nh ch) ∧ W.cell? ⟨B, 2, none⟩ = some (.slice (some ⟨b, o, none⟩) n cq) ∧ W.cell? ⟨b, o + k * 2, none⟩ = some (.int .i64 qx)) (by kernel_rfl) (SB.out _ BD) (fun hHeld => ?_)
                refine wpAnyH_take (i := 0) (v := ?tv1) rfl (by kernel_rfl) (by kernel_rfl) (by kernel_rfl) (fun _ _ _ h => h) (Or.inl ⟨by rfl, ?th1⟩) (by assumption) ?tr1
                case th1 => (intro w hSw; (try dsimp only at hSw); go_simp; all_goals (with_reducible rfl))
                simp only [Act.put, List.getElem_toArray, List.getElem_cons_zero, List.setIfInBounds_toArray, List.set_cons_zero, List.set_cons_succ]
                refine wpAnyH_take (i := 1) (v := ?tv2) rfl (by kernel_rfl) (by kernel_rfl) (by kernel_rfl) (fun _ _ _ h => h) (Or.inl ⟨by rfl, ?th2⟩) (by assumption) ?tr2
                case th2 => (intro w hSw; (try dsimp only at hSw); go_simp; all_goals (with_reducible rfl))
                simp only [Act.put, List.getElem_toArray, List.getElem_cons_zero, List.getElem_cons_succ, List.setIfInBounds_toArray, List.set_cons_zero, List.set_cons_succ]
                refine wpAnyH_take (i := 2) (v := ?tv3) rfl (by kernel_rfl) (by kernel_rfl) (by kernel_rfl) (fun _ _ _ h => h) (Or.inl ⟨by rfl, ?th3⟩) (by assumption) ?tr3
                case th3 => (intro w hSw; (try dsimp only at hSw); go_simp; all_goals (with_reducible rfl))
                simp only [Act.put, List.getElem_toArray, List.getElem_cons_zero, List.getElem_cons_succ, List.setIfInBounds_toArray, List.set_cons_zero, List.set_cons_succ]
                refine wpAnyH_take (i := 3) (v := ?tv4) rfl (by kernel_rfl) (by kernel_rfl) (by kernel_rfl) (fun _ _ _ h => h) (Or.inl ⟨by rfl, ?th4⟩) (by assumption) ?tr4
                case th4 => (intro w hSw; (try dsimp only at hSw); go_simp; all_goals (with_reducible rfl))
                simp only [Act.put, List.getElem_toArray, List.getElem_cons_zero, List.getElem_cons_succ, List.setIfInBounds_toArray, List.set_cons_zero, List.set_cons_succ]
                (try simp only [k2])
                refine wpAnyH_take (i := 4) (v := ?tv5) rfl (by kernel_rfl) (by kernel_rfl) (by kernel_rfl) (fun _ _ _ h => h) (Or.inl ⟨by rfl, ?th5⟩) (by assumption) ?tr5
                case th5 => (intro w hSw; (try dsimp only at hSw); go_simp; all_goals (with_reducible rfl))
                simp only [Act.put, List.getElem_toArray, List.getElem_cons_zero, List.getElem_cons_succ, List.setIfInBounds_toArray, List.set_cons_zero, List.set_cons_succ]
                refine wpAnyH_take (i := 5) (v := ?tv6) rfl (by kernel_rfl) (by kernel_rfl) (by kernel_rfl) (fun _ _ _ h => h) (Or.inl ⟨by rfl, ?th6⟩) (by assumption) ?tr6
                case th6 => (intro w hSw; (try dsimp only at hSw); go_simp; all_goals (with_reducible rfl))
                simp only [Act.put, List.getElem_toArray, List.getElem_cons_zero, List.getElem_cons_succ, List.setIfInBounds_toArray, List.set_cons_zero, List.set_cons_succ]
                refine wpAnyH_take (i := 6) (v := ?tv7) rfl (by kernel_rfl) (by kernel_rfl) (by kernel_rfl) (fun _ _ _ h => h) (Or.inl ⟨by rfl, ?th7⟩) (by assumption) ?tr7
                case th7 => (intro w hSw; (try dsimp only at hSw); go_simp; all_goals (with_reducible rfl))
                simp only [Act.put, List.getElem_toArray, List.getElem_cons_zero, List.getElem_cons_succ, List.setIfInBounds_toArray, List.set_cons_zero, List.set_cons_succ]
                refine wpAnyH_take (i := 7) (v := ?tv8) rfl (by kernel_rfl) (by kernel_rfl) (by kernel_rfl) (fun _ _ _ h => h) (Or.inl ⟨by rfl, ?th8⟩) (by assumption) ?tr8
                case th8 => (intro w hSw; (try dsimp only at hSw); go_simp; all_goals (with_reducible rfl))
                simp only [Act.put, List.getElem_toArray, List.getElem_cons_zero, List.getElem_cons_succ, List.setIfInBounds_toArray, List.set_cons_zero, List.set_cons_succ]
                refine wpAnyH_take (i := 8) (v := ?tv9) rfl (by kernel_rfl) (by kernel_rfl) (by kernel_rfl) (fun _ _ _ h => h) (Or.inl ⟨by rfl, ?th9⟩) (by assumption) ?tr9
                case th9 => (intro w hSw; (try dsimp only at hSw); go_simp; all_goals (with_reducible rfl))
                simp only [Act.put, List.getElem_toArray, List.getElem_cons_zero, List.getElem_cons_succ, List.setIfInBounds_toArray, List.set_cons_zero, List.set_cons_succ]
                refine wpAnyH_take (i := 9) (v := ?tv10) rfl (by kernel_rfl) (by kernel_rfl) (by kernel_rfl) (fun _ _ _ h => h) (Or.inl ⟨by rfl, ?th10⟩) (by assumption) ?tr10
                case th10 => (intro w hSw; (try dsimp only at hSw); go_simp; all_goals (with_reducible rfl))
                simp only [Act.put, List.getElem_toArray, List.getElem_cons_zero, List.getElem_cons_succ, List.setIfInBounds_toArray, List.set_cons_zero, List.set_cons_succ]
                refine wpAnyH_take (i := 10) (v := ?tv11) rfl (by kernel_rfl) (by kernel_rfl) (by kernel_rfl) (fun _ _ _ h => h) (Or.inl ⟨by rfl, ?th11⟩) (by assumption) ?tr11
                case th11 => (intro w hSw; (try dsimp only at hSw); go_simp; all_goals (with_reducible rfl))
                simp only [Act.put, List.getElem_toArray, List.getElem_cons_zero, List.getElem_cons_succ, List.setIfInBounds_toArray, List.set_cons_zero, List.set_cons_succ]
                refine wpAnyH_take (i := 11) (v := ?tv12) rfl (by kernel_rfl) (by kernel_rfl) (by kernel_rfl) (fun _ _ _ h => h) (Or.inl ⟨by rfl, ?th12⟩) (by assumption) ?tr12
                case th12 => (intro w hSw; (try dsimp only at hSw); go_simp; all_goals (with_reducible rfl))
                simp only [Act.put, List.getElem_toArray, List.getElem_cons_zero, List.getElem_cons_succ, List.setIfInBounds_toArray, List.set_cons_zero, List.set_cons_succ]
                refine wpAnyH_take (i := 12) (v := ?tv13) rfl (by kernel_rfl) (by kernel_rfl) (by kernel_rfl) (fun _ _ _ h => h) (Or.inl ⟨by rfl, ?th13⟩) (by assumption) ?tr13
                case th13 => (intro w hSw; (try dsimp only at hSw); go_simp; all_goals (with_reducible rfl))
                simp only [Act.put, List.getElem_toArray, List.getElem_cons_zero, List.getElem_cons_succ, List.setIfInBounds_toArray, List.set_cons_zero, List.set_cons_succ]
                refine wpAnyH_take (i := 13) (v := ?tv14) rfl (by kernel_rfl) (by kernel_rfl) (by kernel_rfl) (fun _ _ _ h => h) (Or.inl ⟨by rfl, ?th14⟩) (by assumption) ?tr14
                case th14 => (intro w hSw; (try dsimp only at hSw); go_simp; all_goals (with_reducible rfl))
                simp only [Act.put, List.getElem_toArray, List.getElem_cons_zero, List.getElem_cons_succ, List.setIfInBounds_toArray, List.set_cons_zero, List.set_cons_succ]
                refine wpAnyH_ready (rs := [14]) (by kernel_rfl) (by simp) ?_
                refine AllReadyH.cons rfl (fun K hK => ?_) AllReadyH.nil
                go_simp
                refine (K2.out _ (below_tr B0.out (below_tr hb.out BD))).mono ?_
                rintro r v14 ⟨rfl, hv14⟩
                have BE : Below wr.heap.size wr v14 := below_tr BD hv14
                clear hv14
                refine hK.out _ _ (SB.out _ BE) (fun hHeld => ?_)
                clear hK K
                try simp only [Act.put, List.getElem_toArray, List.getElem_cons_zero, List.getElem_cons_succ, List.setIfInBounds_toArray, List.set_cons_zero, List.set_cons_succ]
                refine wpAnyH_take (i := 15) (v := ?tv15) rfl (by kernel_rfl) (by kernel_rfl) (by kernel_rfl) (fun _ _ _ h => h) (Or.inl ⟨by rfl, ?th15⟩) (by assumption) ?tr15
                case th15 => (intro w hSw; (try dsimp only at hSw); go_simp; all_goals (with_reducible rfl))
                simp only [Act.put, List.getElem_toArray, List.getElem_cons_zero, List.getElem_cons_succ, List.setIfInBounds_toArray, List.set_cons_zero, List.set_cons_succ]
                refine wpAnyH_take (i := 16) (v := ?tv16) rfl (by kernel_rfl) (by kernel_rfl) (by kernel_rfl) (fun _ _ _ h => h) (Or.inl ⟨by rfl, ?th16⟩) (by assumption) ?tr16
                case th16 => (intro w hSw; (try dsimp only at hSw); go_simp; all_goals (with_reducible rfl))
                simp only [Act.put, List.getElem_toArray, List.getElem_cons_zero, List.getElem_cons_succ, List.setIfInBounds_toArray, List.set_cons_zero, List.set_cons_succ]
                refine wpAnyH_done (by kernel_rfl) ?_ _
                go_wp2_with fail
                go_meet
                exact ⟨by rw [← p1], BE⟩
              case rest =>
                obtain ⟨rfl, hX3⟩ := hcut
                have B5 := hid (below_tr hb.out hX3.out)
                clear SB K2 hX3 hb
                cases g with
                | true =>
                  have NO : Hid (Lk.spot H Q t = k + 1 + Lk.front H (Q.drop (k + 1))) := by have := hO.out; rw [HF.out, if_pos rfl] at this; show _ = _; omega
                  clear HF hO
                  go_wp2_with fail
                  go_roundw
                  case rel => first
                    | exact ⟨k + 1, by omega, by go_num, NO, B5⟩
                    | ((repeat apply Exists.intro); exact ⟨⟨k + 1, by omega, by go_num, NO, B5⟩, rfl⟩)
                  case measure => simp [intOf]; omega
                | false =>
                  have NO : Hid (Lk.spot H Q t = k) := by have := hO.out; rw [HF.out, if_neg (by simp)] at this; show _ = _; omega
                  clear HF hO
                  go_wp2_with fail
                  go_meet
                  exact ⟨by rw [NO.out], B5⟩
            · obtain rfl : k = n := by omega
              have NO : Hid (Lk.spot H Q t = k) := by
                have := hO.out
                rw [HN.out, List.drop_length] at this
                show _ = _
                rw [HN.out]
                simpa [Lk.front] using this
              have k2 : decide ((k : Int) < (k : Int)) = false := by simp
              have SB : Hid (∀ W, Below wr.heap.size wr W → W.cell? ⟨B, 2, none⟩ = some (.slice aq k cq)) := fun W hW => keep1 hW c2
              have BD : Below wr.heap.size wr wr.drew := (Below.refl _ _).drew
              clear c0 c1 c2 c3 c4 hO HH2
              go_upto_region 7 with fail
              refine wp_region_held_drew (S := fun W => W.cell? ⟨B, 2, none⟩ = some (.slice aq k cq)) (by kernel_rfl) (SB.out _ BD) (fun hHeld => ?_)
              refine wpAnyH_take (i := 0) (v := ?tv17) rfl (by kernel_rfl) (by kernel_rfl) (by kernel_rfl) (fun _ _ _ h => h) (Or.inl ⟨by rfl, ?th17⟩) (by assumption) ?tr17
              case th17 => (intro w hSw; (try dsimp only at hSw); go_simp; all_goals (with_reducible rfl))
              simp only [Act.put, List.getElem_toArray, List.getElem_cons_zero, List.setIfInBounds_toArray, List.set_cons_zero, List.set_cons_succ]
              refine wpAnyH_take (i := 1) (v := ?tv18) rfl (by kernel_rfl) (by kernel_rfl) (by kernel_rfl) (fun _ _ _ h => h) (Or.inl ⟨by rfl, ?th18⟩) (by assumption) ?tr18
              case th18 => (intro w hSw; (try dsimp only at hSw); go_simp; all_goals (with_reducible rfl))
              simp only [Act.put, List.getElem_toArray, List.getElem_cons_zero, List.getElem_cons_succ, List.setIfInBounds_toArray, List.set_cons_zero, List.set_cons_succ]
              refine wpAnyH_take (i := 2) (v := ?tv19) rfl (by kernel_rfl) (by kernel_rfl) (by kernel_rfl) (fun _ _ _ h => h) (Or.inl ⟨by rfl, ?th19⟩) (by assumption) ?tr19
              case th19 => (intro w hSw; (try dsimp only at hSw); go_simp; all_goals (with_reducible rfl))
              simp only [Act.put, List.getElem_toArray, List.getElem_cons_zero, List.getElem_cons_succ, List.setIfInBounds_toArray, List.set_cons_zero, List.set_cons_succ]
              refine wpAnyH_take (i := 3) (v := ?tv20) rfl (by kernel_rfl) (by kernel_rfl) (by kernel_rfl) (fun _ _ _ h => h) (Or.inl ⟨by rfl, ?th20⟩) (by assumption) ?tr20
              case th20 => (intro w hSw; (try dsimp only at hSw); go_simp; all_goals (with_reducible rfl))
              simp only [Act.put, List.getElem_toArray, List.getElem_cons_zero, List.getElem_cons_succ, List.setIfInBounds_toArray, List.set_cons_zero, List.set_cons_succ]
              (try simp only [k2])
              refine wpAnyH_take (i := 4) (v := ?tv21) rfl (by kernel_rfl) (by kernel_rfl) (by kernel_rfl) (fun _ _ _ h => h) (Or.inl ⟨by rfl, ?th21⟩) (by assumption) ?tr21
              case th21 => (intro w hSw; (try dsimp only at hSw); go_simp; all_goals (with_reducible rfl))
              simp only [Act.put, List.getElem_toArray, List.getElem_cons_zero, List.getElem_cons_succ, List.setIfInBounds_toArray, List.set_cons_zero, List.set_cons_succ]
              refine wpAnyH_take (i := 5) (v := ?tv22) rfl (by kernel_rfl) (by kernel_rfl) (by kernel_rfl) (fun _ _ _ h => h) (Or.inl ⟨by rfl, ?th22⟩) (by assumption) ?tr22
              case th22 => (intro w hSw; (try dsimp only at hSw); go_simp; all_goals (with_reducible rfl))
              simp only [Act.put, List.getElem_toArray, List.getElem_cons_zero, List.getElem_cons_succ, List.setIfInBounds_toArray, List.set_cons_zero, List.set_cons_succ]
              refine wpAnyH_take (i := 6) (v := undef) rfl (by kernel_rfl) (by kernel_rfl) (by kernel_rfl) (fun _ _ _ h => h) (Or.inr ⟨by rfl, rfl⟩) (by assumption) ?_
              try simp only [Act.put, List.getElem_toArray, List.getElem_cons_zero, List.getElem_cons_succ, List.setIfInBounds_toArray, List.set_cons_zero, List.set_cons_succ]
              refine wpAnyH_take (i := 7) (v := undef) rfl (by kernel_rfl) (by kernel_rfl) (by kernel_rfl) (fun _ _ _ h => h) (Or.inr ⟨by rfl, rfl⟩) (by assumption) ?_
              try simp only [Act.put, List.getElem_toArray, List.getElem_cons_zero, List.getElem_cons_succ, List.setIfInBounds_toArray, List.set_cons_zero, List.set_cons_succ]
              refine wpAnyH_take (i := 8) (v := undef) rfl (by kernel_rfl) (by kernel_rfl) (by kernel_rfl) (fun _ _ _ h => h) (Or.inr ⟨by rfl, rfl⟩) (by assumption) ?_
              try simp only [Act.put, List.getElem_toArray, List.getElem_cons_zero, List.getElem_cons_succ, List.setIfInBounds_toArray, List.set_cons_zero, List.set_cons_succ]
              refine wpAnyH_take (i := 9) (v := undef) rfl (by kernel_rfl) (by kernel_rfl) (by kernel_rfl) (fun _ _ _ h => h) (Or.inr ⟨by rfl, rfl⟩) (by assumption) ?_
              try simp only [Act.put, List.getElem_toArray, List.getElem_cons_zero, List.getElem_cons_succ, List.setIfInBounds_toArray, List.set_cons_zero, List.set_cons_succ]
              refine wpAnyH_take (i := 10) (v := undef) rfl (by kernel_rfl) (by kernel_rfl) (by kernel_rfl) (fun _ _ _ h => h) (Or.inr ⟨by rfl, rfl⟩) (by assumption) ?_
              try simp only [Act.put, List.getElem_toArray, List.getElem_cons_zero, List.getElem_cons_succ, List.setIfInBounds_toArray, List.set_cons_zero, List.set_cons_succ]
              refine wpAnyH_take (i := 11) (v := undef) rfl (by kernel_rfl) (by kernel_rfl) (by kernel_rfl) (fun _ _ _ h => h) (Or.inr ⟨by rfl, rfl⟩) (by assumption) ?_
              try simp only [Act.put, List.getElem_toArray, List.getElem_cons_zero, List.getElem_cons_succ, List.setIfInBounds_toArray, List.set_cons_zero, List.set_cons_succ]
              refine wpAnyH_take (i := 12) (v := undef) rfl (by kernel_rfl) (by kernel_rfl) (by kernel_rfl) (fun _ _ _ h => h) (Or.inr ⟨by rfl, rfl⟩) (by assumption) ?_
              try simp only [Act.put, List.getElem_toArray, List.getElem_cons_zero, List.getElem_cons_succ, List.setIfInBounds_toArray, List.set_cons_zero, List.set_cons_succ]
              refine wpAnyH_take (i := 13) (v := undef) rfl (by kernel_rfl) (by kernel_rfl) (by kernel_rfl) (fun _ _ _ h => h) (Or.inr ⟨by rfl, rfl⟩) (by assumption) ?_
              try simp only [Act.put, List.getElem_toArray, List.getElem_cons_zero, List.getElem_cons_succ, List.setIfInBounds_toArray, List.set_cons_zero, List.set_cons_succ]
              refine wpAnyH_take (i := 14) (v := undef) rfl (by kernel_rfl) (by kernel_rfl) (by kernel_rfl) (fun _ _ _ h => h) (Or.inr ⟨by rfl, rfl⟩) (by assumption) ?_
              try simp only [Act.put, List.getElem_toArray, List.getElem_cons_zero, List.getElem_cons_succ, List.setIfInBounds_toArray, List.set_cons_zero, List.set_cons_succ]
              refine wpAnyH_take (i := 15) (v := undef) rfl (by kernel_rfl) (by kernel_rfl) (by kernel_rfl) (fun _ _ _ h => h) (Or.inr ⟨by rfl, rfl⟩) (by assumption) ?_
              try simp only [Act.put, List.getElem_toArray, List.getElem_cons_zero, List.getElem_cons_succ, List.setIfInBounds_toArray, List.set_cons_zero, List.set_cons_succ]
              refine wpAnyH_take (i := 16) (v := ?tv23) rfl (by kernel_rfl) (by kernel_rfl) (by kernel_rfl) (fun _ _ _ h => h) (Or.inl ⟨by rfl, ?th23⟩) (by assumption) ?tr23
              case th23 => (intro w hSw; (try dsimp only at hSw); go_simp; all_goals (with_reducible rfl))
              simp only [Act.put, List.getElem_toArray, List.getElem_cons_zero, List.getElem_cons_succ, List.setIfInBounds_toArray, List.set_cons_zero, List.set_cons_succ]
              refine wpAnyH_done (by kernel_rfl) ?_ _
              go_wp2_with fail
              go_meet
              exact ⟨by rw [NO.out], below_tr hb.out BD⟩
      case rest =>
        obtain ⟨rfl, hX2⟩ := hcut
        have BW := hid (below_tr B0.out hX2.out)
        clear c0 c1 c2 c3 c4 hX KH HS
        have SB := hid fun W (hW : Below wc.heap.size wc W) => (C0.out W (below_tr hX2.out hW)).1
        have SA := hid fun W (hW : Below wc.heap.size wc W) => (C0.out W (below_tr hX2.out hW)).2
        obtain ⟨k, hk⟩ : ∃ k, k = Lk.spot H Q t := ⟨_, rfl⟩
        rw [← hk] at HP HSl ⊢
        have HX : Hid (Lk.placed H Q ⟨t, m⟩ = Q.take k ++ ⟨t, m⟩ :: Q.drop k) := HP.out
        obtain ⟨⟨c0, c1, c2, c3, c4⟩, _, hz⟩ := C0.out _ hX2.out
        have hBc : B + 1 + 1 < wc.heap.size := hz.lt
        have fin := fin_asked (w := w) (wc := wc) (B := B) HB.out hBc BW.out (fun W hW => SA.out W hW)
        have hkl : k ≤ Q.length := by rw [← HN.out]; exact HSl.out
        have lQ := lQ2.out
        obtain rfl := HN.out
        clear hk hz HP HSl C0
        go_upto_region 9 with fail
        refine wp_region_held_drew (S := fun W => W.cell? ⟨B, 0, none⟩ = some (.int .i64 i) ∧ W.cell? ⟨B, 1, none⟩ = some (.slice ah nh ch) ∧ W.cell? ⟨B + 1, 0, none⟩ = some (.int .i64 t) ∧ W.cell? ⟨B + 1, 1, none⟩ = some (.int .i64 m)) (by kernel_rfl) ⟨c0, c1, c3, c4⟩ (fun hHeld => ?_)
        clear c0 c1 c2 c3 c4
        refine wpAnyH_take (i := 0) (v := ?tv24) rfl (by kernel_rfl) (by kernel_rfl) (by kernel_rfl) (fun _ _ _ h => h) (Or.inl ⟨by rfl, ?th24⟩) (by assumption) ?tr24
        case th24 => (intro w hSw; (try dsimp only at hSw); go_simp; all_goals (with_reducible rfl))
        simp only [Act.put, List.getElem_toArray, List.getElem_cons_zero, List.setIfInBounds_toArray, List.set_cons_zero, List.set_cons_succ]
        refine wpAnyH_take (i := 3) (v := ?tv25) rfl (by kernel_rfl) (by kernel_rfl) (by kernel_rfl) (fun _ _ _ h => h) (Or.inl ⟨by rfl, ?th25⟩) (by assumption) ?tr25
        case th25 => (intro w hSw; (try dsimp only at hSw); go_simp; all_goals (with_reducible rfl))
        simp only [Act.put, List.getElem_toArray, List.getElem_cons_zero, List.getElem_cons_succ, List.setIfInBounds_toArray, List.set_cons_zero, List.set_cons_succ]
        refine wpAnyH_take (i := 4) (v := ?tv26) rfl (by kernel_rfl) (by kernel_rfl) (by kernel_rfl) (fun _ _ _ h => h) (Or.inl ⟨by rfl, ?th26⟩) (by assumption) ?tr26
        case th26 => (intro w hSw; (try dsimp only at hSw); go_simp; all_goals (with_reducible rfl))
        simp only [Act.put, List.getElem_toArray, List.getElem_cons_zero, List.getElem_cons_succ, List.setIfInBounds_toArray, List.set_cons_zero, List.set_cons_succ]
        refine wpAnyH_ready (rs := [1, 5]) (by kernel_rfl) (by simp) ?_
        refine AllReadyH.cons rfl (fun K hK => ?_) (AllReadyH.cons rfl (fun K hK => ?_) AllReadyH.nil)
        · skip
          obtain ⟨f0, f1, f2, f3, f4⟩ := SB.out wc.drew (show Below wc.heap.size wc wc.drew from (Below.refl _ wc).drew)
          go_simp
          refine hK.out _ _ ⟨f0, f1, f3, f4⟩ (fun hHeld => ?_)
          clear hK K f0 f1 f2 f3 f4
          try simp only [Act.put, List.getElem_toArray, List.getElem_cons_zero, List.getElem_cons_succ, List.setIfInBounds_toArray, List.set_cons_zero, List.set_cons_succ]
          refine wpAnyH_ready (rs := [2, 5]) (by kernel_rfl) (by simp) ?_
          refine AllReadyH.cons rfl (fun K hK => ?_) (AllReadyH.cons rfl (fun K hK => ?_) AllReadyH.nil)
          · skip
            go_simp
            refine (clone_any wc.drew aq cq Q (PQ.out.below (below_tr BW.out (show Below wc.heap.size wc wc.drew from (Below.refl _ wc).drew))) (by omega)).mono ?_
            rintro r u2 ⟨v2, rfl, o2, h2⟩
            have b2 := below_tr (show Below wc.heap.size wc wc.drew from (Below.refl _ wc).drew) h2
            have ol2 := o2.lower (base' := wc.heap.size) (show Below wc.heap.size wc wc.drew from (Below.refl _ wc).drew).size
            obtain ⟨f0, f1, f2, f3, f4⟩ := SB.out u2 b2
            refine hK.out _ _ ⟨f0, f1, f3, f4⟩ (fun hHeld => ?_)
            clear hK K f0 f1 f2 f3 f4
            try simp only [Act.put, List.getElem_toArray, List.getElem_cons_zero, List.getElem_cons_succ, List.setIfInBounds_toArray, List.set_cons_zero, List.set_cons_succ]
            refine wpAnyH_ready (rs := [5]) (by kernel_rfl) (by simp) ?_
            refine AllReadyH.cons rfl (fun K hK => ?_) AllReadyH.nil
            obtain ⟨f0, f1, f2, f3, f4⟩ := SB.out u2 b2
            obtain ⟨u3, z3⟩ : ∃ u, u = u2.alloc (.cells #[.int .i64 t, .int .i64 m] 65) := ⟨_, rfl⟩
            have b3 : Below wc.heap.size wc u3 := by rw [z3]; exact below_tr b2 (bx _ _)
            have e3 : OneAt u3 u2.heap.size ⟨t, m⟩ := by rw [z3]; exact heap_alloc_new u2 _
            have ol3 : OwnLk u3 wc.heap.size v2 Q := by rw [z3]; exact OwnLk.below ol2 (bx _ _)
            have ne3 : Value.ownBlock v2 ≠ some u2.heap.size := fun e => Nat.lt_irrefl _ (ol2.lt _ e).2
            have q3 := hid z3
            clear z3 f0 f1 f2 f3 f4
            obtain ⟨f0, f1, f2, f3, f4⟩ := SB.out u3 b3
            go_simp
            rw [← q3.out]
            refine hK.out _ _ ⟨f0, f1, f3, f4⟩ (fun hHeld => ?_)
            clear hK K f0 f1 f2 f3 f4
            try simp only [Act.put, List.getElem_toArray, List.getElem_cons_zero, List.getElem_cons_succ, List.setIfInBounds_toArray, List.set_cons_zero, List.set_cons_succ]
            refine wpAnyH_ready (rs := [6]) (by kernel_rfl) (by simp) ?_
            refine AllReadyH.cons rfl (fun K hK => ?_) AllReadyH.nil
            go_simp
            refine (insert_any u3 wc.heap.size _ k u2.heap.size Q ⟨t, m⟩ ol3 e3 ne3 lQ hkl b3.size).mono ?_
            rintro r w4 ⟨v5, rfl, o4, g4⟩
            have b4 : Below wc.heap.size wc w4 := below_goes b3 g4 b3.size (fun g hg => ((ol3).lt g hg).1)
            obtain ⟨a4, c4, rfl, _⟩ := o4.at_
            generalize hn4 : (Q.take k ++ (⟨t, m⟩ : Lk.Lo) :: Q.drop k).length = n4 at *
            obtain ⟨f0, f1, f2, f3, f4⟩ := SB.out w4 b4
            have fz := (SA.out w4 b4).1.fz 2
            refine hK.out _ _ ⟨f0, f1, f3, f4⟩ (fun hHeld => ?_)
            clear hK K
            try simp only [Act.put, List.getElem_toArray, List.getElem_cons_zero, List.getElem_cons_succ, List.setIfInBounds_toArray, List.set_cons_zero, List.set_cons_succ]
            refine wpAnyH_take (i := 7) (v := ?tv27) rfl (by kernel_rfl) (by kernel_rfl) (by kernel_rfl) (fun _ _ _ h => h) (Or.inl ⟨by rfl, ?th27⟩) (by assumption) ?tr27
            case th27 => (intro w hSw; (try dsimp only at hSw); go_simp; all_goals (with_reducible rfl))
            simp only [Act.put, List.getElem_toArray, List.getElem_cons_zero, List.getElem_cons_succ, List.setIfInBounds_toArray, List.set_cons_zero, List.set_cons_succ]
            refine wpAnyH_ready (rs := [8]) (by kernel_rfl) (by simp) ?_
            refine AllReadyH.cons rfl (fun K hK => ?_) AllReadyH.nil
            go_simp
            refine hK.out _ _ (held_set (po := 0) (Nat.ne_of_lt (Nat.lt_succ_self B)) ⟨f0, f1, f3, f4⟩) (fun hHeld => ?_)
            clear hK K
            try simp only [Act.put, List.getElem_toArray, List.getElem_cons_zero, List.getElem_cons_succ, List.setIfInBounds_toArray, List.set_cons_zero, List.set_cons_succ]
            refine wpAnyH_done (by kernel_rfl) ?_ _
            have F := fin (Lk.placed H Q ⟨t, m⟩) _ w4 b4 (by rw [HX.out]; exact o4)
            obtain ⟨z0, z1, z2, x0, x1, x2, _, _, _, y0, y1, y2⟩ := F.2.2.2
            go_wp2_with fail
            exact bodyPost_ret (F.1.result2 rfl rfl Try.underlying57 rfl rfl rfl) rfl ⟨_, _, rfl, by rw [HA.out]; exact .inl ⟨rfl, rfl⟩, by rw [HA.out]; exact .inr F.2.1, F.2.2.1⟩
          · skip
            obtain ⟨f0, f1, f2, f3, f4⟩ := SB.out wc.drew (show Below wc.heap.size wc wc.drew from (Below.refl _ wc).drew)
            obtain ⟨u4, z4⟩ : ∃ u, u = (wc.alloc (.cells #[.int .i64 t, .int .i64 m] 65)).drew := ⟨_, rfl⟩
            have b4 : Below wc.heap.size wc u4 := by rw [z4]; exact (below_tr (bx _ _) (Below.refl _ _).drew)
            have e4 : OneAt u4 wc.heap.size ⟨t, m⟩ := by rw [z4]; exact heap_alloc_new wc _
            have q4 := hid z4
            clear z4 f0 f1 f2 f3 f4
            obtain ⟨f0, f1, f2, f3, f4⟩ := SB.out u4 b4
            go_simp
            rw [← q4.out]
            refine hK.out _ _ ⟨f0, f1, f3, f4⟩ (fun hHeld => ?_)
            clear hK K f0 f1 f2 f3 f4
            try simp only [Act.put, List.getElem_toArray, List.getElem_cons_zero, List.getElem_cons_succ, List.setIfInBounds_toArray, List.set_cons_zero, List.set_cons_succ]
            refine wpAnyH_ready (rs := [2]) (by kernel_rfl) (by simp) ?_
            refine AllReadyH.cons rfl (fun K hK => ?_) AllReadyH.nil
            go_simp
            refine (clone_any u4 aq cq Q (PQ.out.below (below_tr BW.out b4)) (by omega)).mono ?_
            rintro r u5 ⟨v5, rfl, o5, h5⟩
            have b5 := below_tr b4 h5
            have ol5 := o5.lower (base' := wc.heap.size) b4.size
            have e5 := one_below e4 h5
            have ne5 : v5.ownBlock ≠ some wc.heap.size := fun e => by have := (o5.lt _ e).1; have := OneAt.lt e4; omega
            obtain ⟨f0, f1, f2, f3, f4⟩ := SB.out u5 b5
            refine hK.out _ _ ⟨f0, f1, f3, f4⟩ (fun hHeld => ?_)
            clear hK K f0 f1 f2 f3 f4
            try simp only [Act.put, List.getElem_toArray, List.getElem_cons_zero, List.getElem_cons_succ, List.setIfInBounds_toArray, List.set_cons_zero, List.set_cons_succ]
            refine wpAnyH_ready (rs := [6]) (by kernel_rfl) (by simp) ?_
            refine AllReadyH.cons rfl (fun K hK => ?_) AllReadyH.nil
            go_simp
            refine (insert_any u5 wc.heap.size _ k wc.heap.size Q ⟨t, m⟩ ol5 e5 ne5 lQ hkl b5.size).mono ?_
            rintro r w4 ⟨v5, rfl, o4, g4⟩
            have b4 : Below wc.heap.size wc w4 := below_goes b5 g4 b5.size (fun g hg => ((ol5).lt g hg).1)
            obtain ⟨a4, c4, rfl, _⟩ := o4.at_
            generalize hn4 : (Q.take k ++ (⟨t, m⟩ : Lk.Lo) :: Q.drop k).length = n4 at *
            obtain ⟨f0, f1, f2, f3, f4⟩ := SB.out w4 b4
            have fz := (SA.out w4 b4).1.fz 2
            refine hK.out _ _ ⟨f0, f1, f3, f4⟩ (fun hHeld => ?_)
            clear hK K
            try simp only [Act.put, List.getElem_toArray, List.getElem_cons_zero, List.getElem_cons_succ, List.setIfInBounds_toArray, List.set_cons_zero, List.set_cons_succ]
            refine wpAnyH_take (i := 7) (v := ?tv28) rfl (by kernel_rfl) (by kernel_rfl) (by kernel_rfl) (fun _ _ _ h => h) (Or.inl ⟨by rfl, ?th28⟩) (by assumption) ?tr28
            case th28 => (intro w hSw; (try dsimp only at hSw); go_simp; all_goals (with_reducible rfl))
            simp only [Act.put, List.getElem_toArray, List.getElem_cons_zero, List.getElem_cons_succ, List.setIfInBounds_toArray, List.set_cons_zero, List.set_cons_succ]
            refine wpAnyH_ready (rs := [8]) (by kernel_rfl) (by simp) ?_
            refine AllReadyH.cons rfl (fun K hK => ?_) AllReadyH.nil
            go_simp
            refine hK.out _ _ (held_set (po := 0) (Nat.ne_of_lt (Nat.lt_succ_self B)) ⟨f0, f1, f3, f4⟩) (fun hHeld => ?_)
            clear hK K
            try simp only [Act.put, List.getElem_toArray, List.getElem_cons_zero, List.getElem_cons_succ, List.setIfInBounds_toArray, List.set_cons_zero, List.set_cons_succ]
            refine wpAnyH_done (by kernel_rfl) ?_ _
            have F := fin (Lk.placed H Q ⟨t, m⟩) _ w4 b4 (by rw [HX.out]; exact o4)
            obtain ⟨z0, z1, z2, x0, x1, x2, _, _, _, y0, y1, y2⟩ := F.2.2.2
            go_wp2_with fail
            exact bodyPost_ret (F.1.result2 rfl rfl Try.underlying57 rfl rfl rfl) rfl ⟨_, _, rfl, by rw [HA.out]; exact .inl ⟨rfl, rfl⟩, by rw [HA.out]; exact .inr F.2.1, F.2.2.1⟩
        · skip
          obtain ⟨f0, f1, f2, f3, f4⟩ := SB.out wc.drew (show Below wc.heap.size wc wc.drew from (Below.refl _ wc).drew)
          obtain ⟨u6, z6⟩ : ∃ u, u = (wc.alloc (.cells #[.int .i64 t, .int .i64 m] 65)).drew := ⟨_, rfl⟩
          have b6 : Below wc.heap.size wc u6 := by rw [z6]; exact (below_tr (bx _ _) (Below.refl _ _).drew)
          have e6 : OneAt u6 wc.heap.size ⟨t, m⟩ := by rw [z6]; exact heap_alloc_new wc _
          have q6 := hid z6
          clear z6 f0 f1 f2 f3 f4
          obtain ⟨f0, f1, f2, f3, f4⟩ := SB.out u6 b6
          go_simp
          rw [← q6.out]
          refine hK.out _ _ ⟨f0, f1, f3, f4⟩ (fun hHeld => ?_)
          clear hK K f0 f1 f2 f3 f4
          try simp only [Act.put, List.getElem_toArray, List.getElem_cons_zero, List.getElem_cons_succ, List.setIfInBounds_toArray, List.set_cons_zero, List.set_cons_succ]
          refine wpAnyH_ready (rs := [1]) (by kernel_rfl) (by simp) ?_
          refine AllReadyH.cons rfl (fun K hK => ?_) AllReadyH.nil
          obtain ⟨f0, f1, f2, f3, f4⟩ := SB.out u6 b6
          go_simp
          refine hK.out _ _ ⟨f0, f1, f3, f4⟩ (fun hHeld => ?_)
          clear hK K f0 f1 f2 f3 f4
          try simp only [Act.put, List.getElem_toArray, List.getElem_cons_zero, List.getElem_cons_succ, List.setIfInBounds_toArray, List.set_cons_zero, List.set_cons_succ]
          refine wpAnyH_ready (rs := [2]) (by kernel_rfl) (by simp) ?_
          refine AllReadyH.cons rfl (fun K hK => ?_) AllReadyH.nil
          go_simp
          refine (clone_any u6 aq cq Q (PQ.out.below (below_tr BW.out b6)) (by omega)).mono ?_
          rintro r u8 ⟨v8, rfl, o8, h8⟩
          have b8 := below_tr b6 h8
          have ol8 := o8.lower (base' := wc.heap.size) b6.size
          have e8 := one_below e6 h8
          have ne8 : v8.ownBlock ≠ some wc.heap.size := fun e => by have := (o8.lt _ e).1; have := OneAt.lt e6; omega
          obtain ⟨f0, f1, f2, f3, f4⟩ := SB.out u8 b8
          refine hK.out _ _ ⟨f0, f1, f3, f4⟩ (fun hHeld => ?_)
          clear hK K f0 f1 f2 f3 f4
          try simp only [Act.put, List.getElem_toArray, List.getElem_cons_zero, List.getElem_cons_succ, List.setIfInBounds_toArray, List.set_cons_zero, List.set_cons_succ]
          refine wpAnyH_ready (rs := [6]) (by kernel_rfl) (by simp) ?_
          refine AllReadyH.cons rfl (fun K hK => ?_) AllReadyH.nil
          go_simp
          refine (insert_any u8 wc.heap.size _ k wc.heap.size Q ⟨t, m⟩ ol8 e8 ne8 lQ hkl b8.size).mono ?_
          rintro r w4 ⟨v5, rfl, o4, g4⟩
          have b4 : Below wc.heap.size wc w4 := below_goes b8 g4 b8.size (fun g hg => ((ol8).lt g hg).1)
          obtain ⟨a4, c4, rfl, _⟩ := o4.at_
          generalize hn4 : (Q.take k ++ (⟨t, m⟩ : Lk.Lo) :: Q.drop k).length = n4 at *
          obtain ⟨f0, f1, f2, f3, f4⟩ := SB.out w4 b4
          have fz := (SA.out w4 b4).1.fz 2
          refine hK.out _ _ ⟨f0, f1, f3, f4⟩ (fun hHeld => ?_)
          clear hK K
          try simp only [Act.put, List.getElem_toArray, List.getElem_cons_zero, List.getElem_cons_succ, List.setIfInBounds_toArray, List.set_cons_zero, List.set_cons_succ]
          refine wpAnyH_take (i := 7) (v := ?tv29) rfl (by kernel_rfl) (by kernel_rfl) (by kernel_rfl) (fun _ _ _ h => h) (Or.inl ⟨by rfl, ?th29⟩) (by assumption) ?tr29
          case th29 => (intro w hSw; (try dsimp only at hSw); go_simp; all_goals (with_reducible rfl))
          simp only [Act.put, List.getElem_toArray, List.getElem_cons_zero, List.getElem_cons_succ, List.setIfInBounds_toArray, List.set_cons_zero, List.set_cons_succ]
          refine wpAnyH_ready (rs := [8]) (by kernel_rfl) (by simp) ?_
          refine AllReadyH.cons rfl (fun K hK => ?_) AllReadyH.nil
          go_simp
          refine hK.out _ _ (held_set (po := 0) (Nat.ne_of_lt (Nat.lt_succ_self B)) ⟨f0, f1, f3, f4⟩) (fun hHeld => ?_)
          clear hK K
          try simp only [Act.put, List.getElem_toArray, List.getElem_cons_zero, List.getElem_cons_succ, List.setIfInBounds_toArray, List.set_cons_zero, List.set_cons_succ]
          refine wpAnyH_done (by kernel_rfl) ?_ _
          have F := fin (Lk.placed H Q ⟨t, m⟩) _ w4 b4 (by rw [HX.out]; exact o4)
          obtain ⟨z0, z1, z2, x0, x1, x2, _, _, _, y0, y1, y2⟩ := F.2.2.2
          go_wp2_with fail
          exact bodyPost_ret (F.1.result2 rfl rfl Try.underlying57 rfl rfl rfl) rfl ⟨_, _, rfl, by rw [HA.out]; exact .inl ⟨rfl, rfl⟩, by rw [HA.out]; exact .inr F.2.1, F.2.2.1⟩
end Go.Proofs.Ytjoaedkgjnchoac.PLock
