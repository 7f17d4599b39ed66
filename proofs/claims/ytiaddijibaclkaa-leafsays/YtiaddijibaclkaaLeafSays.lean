/- quirlaw.LeafSays, walked: it answers true, and nothing that was there has turned. Conditions: how many slots there are, how long the texts are. -/
import Derived.Test.YtiaddijibaclkaaLeafSaysD2
namespace Go.Proofs.Ytiaddijibaclkaa.PLeaf
open Go Go.RowKit
set_option maxRecDepth 100000

set_option maxHeartbeats 20000000 in
theorem says_walk (w : World) (a : Option Addr) (c : Nat) (X : List Lf.Sl) (t : ByteArray) (k : Int) (s : ByteArray) (h : PgIn w a X) (ht : t.size ≤ 140737488355328) (hs : s.size ≤ 140737488355328) :
    Calls Try.prog 7 #[.agg #[.slice a X.length c], .string t, .int .i64 k, .string s] w fun e w' => e = .returned (.bool true) ∧ Below w.heap.size w w' := by
  have KErr := hid fun W (hW : PgIn W a X) => refErr_any W a c X hW
  have KFree := hid fun W (hW : PgIn W a X) => free_any W a c X hW
  have KPut := hid fun W (hW : PgIn W a X) => put_any W a c X t hW ht
  have KGet := hid fun W (hW : PgIn W a X) => get_any W a c X k hW
  have KDrop := hid fun W (hW : PgIn W a X) => drop_any W a c X k hW
  have KText := hid fun W (hW : PgIn W a X) => text_any W a c X hW
  have KRead := hid fun W => read_any s W hs
  have KRef := hid fun W => refRead_any s W hs
  have KChk := hid fun W (hW : PgIn W a X) => check_any W a c X hW.at_ (by have := hW.len; omega) hW.txs
  have KSame := hid fun W a1 a2 c1 c2 (Y : List Lf.Sl) (h1 : PgAt W a1 Y) (h2 : PgAt W a2 Y) (hY : Y.length ≤ 41) => same_any W a1 a2 c1 c2 Y Y h1 h2 (by omega) (by omega)
  have HPL := hid (put_len X t)
  have HDL := hid (drop_len X k)
  have HRL := hid (read_len s.data.toList)
  have H := hid h
  have hlen := h.len
  have hl' : (X.length : Int) ≤ 5864062014806 := by omega
  have ht' : (t.size : Int) ≤ 140737488355328 := by omega
  obtain ⟨CX, hCX⟩ : ∃ CX, CX = Lf.check X := ⟨_, rfl⟩
  obtain ⟨P, hP⟩ : ∃ P, P = Lf.put X t := ⟨_, rfl⟩
  obtain ⟨D, hD⟩ : ∃ D, D = Lf.drop X k := ⟨_, rfl⟩
  obtain ⟨G, hG⟩ : ∃ G, G = Lf.get X k := ⟨_, rfl⟩
  obtain ⟨TX, hTX⟩ : ∃ TX, TX = Lf.text X := ⟨_, rfl⟩
  obtain ⟨FR, hFR⟩ : ∃ FR, FR = Lf.free X := ⟨_, rfl⟩
  obtain ⟨R, hR⟩ : ∃ R, R = Lf.read s.data.toList := ⟨_, rfl⟩
  rw [← hCX] at KErr KFree KText KChk
  rw [← hP] at KPut HPL
  rw [← hD] at KDrop HDL
  rw [← hG] at KGet
  rw [← hTX] at KText
  rw [← hFR] at KFree
  rw [← hR] at KRead KRef HRL
  obtain ⟨P1, P2, P3⟩ := P
  obtain ⟨D1, D2⟩ := D
  obtain ⟨G1, G2⟩ := G
  simp only at KPut HPL KDrop HDL KGet
  have HCX := hid hCX
  have HP := hid hP
  have HD := hid hD
  have HG := hid hG
  have HTX := hid hTX
  have HFR := hid hFR
  have hCl : CX ≤ 8 := by rw [hCX]; exact Lf.check_le X
  clear h hCX hP hD hG hTX hFR hR
  go_enter Try.func7, Try.ntmps7
  go_wp2_with fail
  refine (KErr.out _ (H.out.below (bx _ _))).mono ?_
  rintro r w1 ⟨rfl, hb⟩
  have B := hid hb
  have c0 := box1 B.out
  clear hb KErr
  go_wp2_with fail
  refine (KFree.out _ (H.out.below (below_tr (bx _ _) B.out))).mono ?_
  rintro r w2 ⟨rfl, hb⟩
  have B2 := hid (below_tr B.out hb)
  replace c0 := box1 B2.out
  clear hb KFree B
  go_wp2_with fail
  refine (KPut.out _ (H.out.below (below_tr (bx _ _) B2.out))).mono ?_
  rintro r w3 ⟨vq, rfl, hoq, hb⟩
  obtain ⟨aq, cq, rfl, hpq, _⟩ := hoq.at_
  have hbx := bx w3 (.cells #[.slice aq P1.length cq] 73)
  have B3 := hid (below_tr (below_tr B2.out hb) hbx)
  have Q3 := hid (Bxd.new w3 (.slice aq P1.length cq))
  have A3 := hid (hpq.below hbx)
  replace c0 := box1 B3.out
  clear hb KPut B2 hoq hpq hbx
  go_wp2_with fail
  refine (KGet.out _ (H.out.below (below_tr (bx _ _) B3.out))).mono ?_
  rintro r w4 ⟨rfl, hb⟩
  have B4 := hid (below_tr B3.out hb)
  have Q4 := hid (Q3.out.keep hb)
  have A4 := hid (A3.out.below hb)
  replace c0 := box1 B4.out
  clear hb KGet B3 Q3 A3
  go_wp2_with fail
  refine (KDrop.out _ (H.out.below (below_tr (bx _ _) B4.out))).mono ?_
  rintro r w5 ⟨vr, rfl, hor, hb⟩
  obtain ⟨ar, cr, rfl, hpr, _⟩ := hor.at_
  have hbx := bx w5 (.cells #[.slice ar D1.length cr] 73)
  have hb' := below_tr hb hbx
  have B5 := hid (below_tr B4.out hb')
  have Q5 := hid (Q4.out.keep hb')
  have A5 := hid (A4.out.below hb')
  have R5 := hid (Bxd.new w5 (.slice ar D1.length cr))
  have D5 := hid (hpr.below hbx)
  replace c0 := box1 B5.out
  clear hb hb' KDrop B4 Q4 A4 hor hpr hbx
  go_wp2_with fail
  refine (KText.out _ (H.out.below (below_tr (bx _ _) B5.out))).mono ?_
  rintro r w6 ⟨rfl, hb⟩
  have B6 := hid (below_tr B5.out hb)
  have Q6 := hid (Q5.out.keep hb)
  have A6 := hid (A5.out.below hb)
  have R6 := hid (R5.out.keep hb)
  have D6 := hid (D5.out.below hb)
  clear hb KText B5 Q5 A5 R5 D5 c0
  generalize w3.heap.size = qb at *
  generalize w5.heap.size = rb at *
  go_wp2_with fail
  refine (KRead.out _).mono ?_
  rintro r w7 hpost
  obtain ⟨vx, hr, hox, hb⟩ := RdOut.code hpost
  obtain ⟨J, hJ⟩ : ∃ J : Int, J = rdCode R := ⟨_, rfl⟩
  rw [← hJ] at hr
  subst hr
  have HJ := hid hJ
  clear hJ hpost
  obtain ⟨ax, cx, rfl, hpx, _⟩ := hox.at_
  have hbx := bx w7 (.cells #[.slice ax (R.getD []).length cx] 73)
  have hb' := below_tr hb hbx
  have B7 := hid (below_tr B6.out hb')
  have Q7 := hid (Q6.out.keep hb')
  have A7 := hid (A6.out.below hb')
  have R7 := hid (R6.out.keep hb')
  have D7 := hid (D6.out.below hb')
  have X7 := hid (Bxd.new w7 (.slice ax (R.getD []).length cx))
  have PX7 := hid (hpx.below hbx)
  clear hb hb' KRead B6 Q6 A6 R6 D6 hox hpx hbx
  go_wp2_with fail
  refine (KRef.out _).mono ?_
  rintro r w8 ⟨vy, hr, hoy, hb⟩
  obtain ⟨K, hK⟩ : ∃ K : Bool, K = R.isSome := ⟨_, rfl⟩
  rw [← hK] at hr
  subst hr
  have HK := hid hK
  clear hK
  obtain ⟨ay, cy, rfl, hpy, _⟩ := hoy.at_
  have hbx := bx w8 (.cells #[.slice ay (R.getD []).length cy] 73)
  have hb' := below_tr hb hbx
  have B8 := hid (below_tr B7.out hb')
  have Q8 := hid (Q7.out.keep hb')
  have A8 := hid (A7.out.below hb')
  have R8 := hid (R7.out.keep hb')
  have D8 := hid (D7.out.below hb')
  have X8 := hid (X7.out.keep hb')
  have PX8 := hid (PX7.out.below hb')
  have PY8 := hid (hpy.below hbx)
  clear hb hb' KRef B7 Q7 A7 R7 D7 X7 PX7 hoy hpy hbx
  go_upto_region 9 with fail
  have x8 := X8.out.cell
  have y8 := (Bxd.new w8 (.slice ay (R.getD []).length cy)).cell
  generalize w7.heap.size = xb at *
  generalize w8.heap.size = yb at *
  generalize w8.alloc (.cells #[.slice ay (R.getD []).length cy] 73) = W8 at *
  go_cut [93] from 70 to 93 (fun c wx => c = .bool false ∧ Hid (Below W8.heap.size W8 wx))
  case first =>
    have hcc : ((CX : Int) != (CX : Int)) = false := by simp
    cases R with
    | none =>
      obtain rfl : J = 4 := HJ.out
      obtain rfl : K = false := HK.out
      go_wp2_with fail
      refine (KSame.out _ ax ay cx cy _ PX8.out PY8.out (by have := HRL.out; omega)).mono ?_
      rintro r w9 ⟨q, rfl, hq, hb⟩
      obtain rfl : q = true := by simpa using hq
      have B9 := hid hb
      have c0 := box1 (below_tr B8.out hb)
      have KC9 := hid (KChk.out _ (H.out.below (below_tr (bx _ _) (below_tr B8.out hb))))
      clear hb hq x8 y8
      go_wp2_with fail
      refine KC9.out.mono ?_
      rintro r w10 ⟨rfl, hb⟩
      have B10 := hid (below_tr B9.out hb)
      clear hb
      go_wp2_with fail
      go_meet
      case rel => exact ⟨rfl, B10⟩
    | some Y =>
      obtain rfl : J = 0 := HJ.out
      obtain rfl : K = true := HK.out
      go_wp2_with fail
      refine (KSame.out _ ax ay cx cy _ PX8.out PY8.out (by have := HRL.out; omega)).mono ?_
      rintro r w9 ⟨q, rfl, hq, hb⟩
      obtain rfl : q = true := by simpa using hq
      have B9 := hid hb
      have c0 := box1 (below_tr B8.out hb)
      have KC9 := hid (KChk.out _ (H.out.below (below_tr (bx _ _) (below_tr B8.out hb))))
      clear hb hq x8 y8
      go_wp2_with fail
      refine KC9.out.mono ?_
      rintro r w10 ⟨rfl, hb⟩
      have B10 := hid (below_tr B9.out hb)
      clear hb
      go_wp2_with fail
      go_meet
      case rel => exact ⟨rfl, B10⟩
  case rest =>
    obtain ⟨rfl, hW⟩ := hcut
    have B9 := hid (below_tr B8.out hW.out)
    have Q9 := hid (Q8.out.keep hW.out)
    have A9 := hid (A8.out.below hW.out)
    have R9 := hid (R8.out.keep hW.out)
    have D9 := hid (D8.out.below hW.out)
    clear KChk x8 y8 X8 PX8 PY8 HJ HK HRL B8 Q8 A8 R8 D8 hW KSame
    go_upto_if 93 with fail
    go_cut [] from 70 to 93 (fun wx => wx = wc)
    case first =>
      go_wp2_with fail
      go_meet
      case rel => exact rfl
    case rest =>
      subst hcut
      apply_assumption
      exact tail11 w _ a c X qb rb aq cq P1 ar cr D1 H.out B9.out Q9.out A9.out R9.out D9.out t ht k CX FR P2 P3 G2 D2 G1 TX HCX HP HD HG HTX HFR HDL.out

end Go.Proofs.Ytiaddijibaclkaa.PLeaf
