/- quirref.Kinds, walked: it answers what the plain words say, and nothing that was there has turned. Conditions: the run is right; the capacity is no less than the length. -/
import Derived.Test.YtlhkkhojfndoiabRunRk
import Derived.Deep.CutRange
import Derived.BigQuiet
import Derived.Deep.RegionHeld3
namespace Go.Proofs.Ytlhkkhojfndoiab.PRun
open Go Go.RowKit PPool PGraph
set_option maxRecDepth 100000
attribute [local go_sem ↓] loadK_pre storeK_pre

/-- A lone bool result of three. -/
theorem ArrAt.result3 {w : World} {b : Nat} {r c s : Bool} (h : ArrAt w b #[.bool r, .bool c, .bool s]) {fn : Func} {p : Tmp} (hf : fn.results = #[.cell p 71]) {tmps : Array Value} (hp : tmps.getD p undef = .pointer (some ⟨b, 0, none⟩)) :
    (results fn tmps).run Try.prog w = .ok (.agg #[.bool r, .bool c, .bool s]) w := by
  obtain ⟨T, h⟩ := h
  exact results_cell_row hf tmps w b T _ _ _ hp h Try.underlying71 rfl (zero_of_info kind_info).2
theorem RkAt.drew {w W : World} {r c s : Bool} (h : RkAt w W r c s) : RkAt w W.drew r c s := ⟨h.res.drew, h.kind.drew, h.bel.drew⟩
/-- The two outcomes of one read: it keeps the first of the three, or it rests on whether another one has ended. -/
theorem hit_cases {X : List Rn.Op} {k j : Nat} {t : Int} {p : Rn.Op} (hj : j < X.length) (h : p.x = t ∧ p.k = 1) :
    (wrI X j p.i j = none ∧ hitR X k t j p = true) ∨ ∃ q o, wrI X j p.i j = some q ∧ X[q]? = some o ∧ q < j ∧ ((o.x = t ∧ hitR X k t j p = true) ∨ (o.x ≠ t ∧ hitR X k t j p = Rn.com (X.take k) o.x.toNat)) := by
  have hw := from_wr (X := X) (j := j) (p := p) (by omega) (by unfold Rn.item; rw [h.2]; rfl)
  unfold hitR
  rw [if_pos h]
  cases hV : wrI X j p.i j with
  | none =>
    rw [hV] at hw
    simp only at hw
    rw [hw]; exact .inl ⟨rfl, rfl⟩
  | some q =>
    rw [hV] at hw
    obtain ⟨o, h1, h2, h3⟩ := hw
    refine .inr ⟨q, o, rfl, h1, h2, ?_⟩
    rw [h3]
    by_cases e : o.x = t
    · exact .inl ⟨e, by rw [if_pos (by rw [e, h.1])]⟩
    · exact .inr ⟨e, by rw [if_neg (by rw [h.1]; exact e)]⟩
/-- The same of one read or write, of the two others. -/
theorem two_cases {X : List Rn.Op} (hv : Rn.check X = 0) {k : Nat} {p : Rn.Op} (hp : X[k]? = some p) (h : ¬ 2 < p.k) :
    (wrI X k p.i k = none ∧ Rn.strB X (k + 1) = Rn.strB X k ∧ Rn.casB X (k + 1) = Rn.casB X k) ∨ ∃ q o, wrI X k p.i k = some q ∧ X[q]? = some o ∧ q < k ∧ ((o.x = p.x ∧ Rn.strB X (k + 1) = Rn.strB X k ∧ Rn.casB X (k + 1) = Rn.casB X k) ∨
      (o.x ≠ p.x ∧ Rn.strB X (k + 1) = (Rn.strB X k && Rn.com (X.take k) o.x.toNat) ∧ Rn.casB X (k + 1) = (Rn.casB X k && (Rn.com (X.take k) o.x.toNat || decide (p.k = 2))))) := by
  have hk := (List.getElem?_eq_some_iff.1 hp).1
  have hw := from_wr (X := X) (j := k) (p := p) (by omega) (item_of (Rn.good_at hv hp) h)
  cases hV : wrI X k p.i k with
  | none =>
    rw [hV] at hw
    exact .inl ⟨rfl, (strB_none hp hw).1, (strB_none hp hw).2.1⟩
  | some q =>
    rw [hV] at hw
    obtain ⟨o, h1, h2, h3⟩ := hw
    refine .inr ⟨q, o, rfl, h1, h2, ?_⟩
    by_cases e : o.x = p.x
    · rw [if_pos e] at h3
      exact .inl ⟨e, (strB_none hp h3).1, (strB_none hp h3).2.1⟩
    · rw [if_neg e] at h3
      have g := Rn.good_at hv h1
      have := g.x0
      have e2 : o.x = ((o.x.toNat : Nat) : Int) := by omega
      rw [e2] at h3
      exact .inr ⟨e, strB_some hp h3⟩
theorem mem_com {X : List Rn.Op} (h : Rn.check X = 0) (k : Nat) {t : Nat} (ht : t < 12) : decide ((⟨(t : Int), 3, 0⟩ : Rn.Op) ∈ X.take k) = Rn.com (X.take k) t := mem_end h ht (c := 3) (.inl rfl)
theorem op_cells {w W : World} {b o : Nat} {X : List Rn.Op} (H : OpAt w (some ⟨b, o, none⟩) X) (hb : Below w.heap.size w W) {q : Nat} {p : Rn.Op} (hp : X[q]? = some p) : W.cell? ⟨b, o + q * 3, none⟩ = some (.int .i64 p.x) := by
  obtain ⟨b', o', e, g1, _⟩ := (H.below hb) q p hp
  injection e with e
  injection e with q1 q2
  subst q1; subst q2
  exact g1

set_option maxHeartbeats 8000000 in
theorem rkinds_any (w : World) (a : Option Addr) (c : Nat) (X : List Rn.Op) (h : OpAt w a X) (hv : Rn.check X = 0) (hcap : X.length ≤ c) :
    Calls Try.prog 37 #[.slice a X.length c] w fun e w' => e = .returned (.agg #[.bool (Rn.recB X X.length), .bool (Rn.casB X X.length), .bool (Rn.strB X X.length)]) ∧ Below w.heap.size w w' := by
  have H := hid h
  have HC := hid hv
  have l200 := (Rn.check_zero hv).1
  have KW := hid fun W j it h hj => writer_any W a c X j it h hv hcap hj
  have KH := hid fun W k t (h : OpAt W a (X.take k)) => rhas_any W a c (X.take k) t 3 h (by rw [List.length_take]; omega)
  clear hv h
  have st1 : ∀ o : Obj, (storeK (.pointer (some ⟨w.heap.size + 1, 0, none⟩)) (.agg #[.bool true, .bool true, .bool true])).run Try.prog ((w.alloc o).alloc (.cells #[.bool false, .bool false, .bool false] 71)) = .ok () ((w.alloc o).alloc (.cells #[.bool true, .bool true, .bool true] 71)) := fun o => by
    have e := World.setRow_alloc_new (w.alloc o) #[.bool false, .bool false, .bool false] #[.bool true, .bool true, .bool true] 71
    have e2 : (w.alloc o).heap.size = w.heap.size + 1 := by simp
    rw [e2] at e
    rw [← e]
    have := ArrAt.new (w.alloc o) #[.bool false, .bool false, .bool false] 71
    rw [e2] at this
    exact run_storeK this
  have A0 : ∀ T1 T2, Hid (RkAt w ((w.alloc (.cells #[.bool false, .bool false, .bool false] T1)).alloc (.cells #[.bool true, .bool true, .bool true] T2)) (Rn.recB X 0) (Rn.casB X 0) (Rn.strB X 0)) := fun T1 T2 => by
    refine ⟨(ArrAt.new w _ _).below (bx _ _), ?_, bx2 _ _ _⟩
    have := ArrAt.new (w.alloc (.cells #[.bool false, .bool false, .bool false] T1)) #[.bool true, .bool true, .bool true] T2
    rwa [show (w.alloc (.cells #[.bool false, .bool false, .bool false] T1)).heap.size = w.heap.size + 1 by simp] at this
  go_enter Try.func37, Try.ntmps37
  go_wp2_with fail
  clear st1
  go_loopw [4, 5, 6, 7, 8, 9, 13] (fun _ _ _ _ _ _ i wr => ∃ k : Nat, k ≤ X.length ∧ i = .int .i64 (k : Int) ∧ Hid (RkAt w wr (Rn.recB X k) (Rn.casB X k) (Rn.strB X k))) (fun _ _ _ _ _ _ i _ => X.length - (intOf i).toNat)
  case atStart => exact ⟨0, Nat.zero_le _, rfl, A0 _ _⟩
  case round =>
    clear A0
    obtain ⟨k, hk, rfl, hA⟩ := hrel
    by_cases hlt : k < X.length
    rotate_left
    · obtain rfl : k = X.length := by omega
      have hls := run_loadK hA.out.kind
      have hss := run_storeK (r := Rn.recB X X.length) (c := Rn.casB X X.length) (s := Rn.strB X X.length) hA.out.res
      have A2 : Hid (ArrAt (wr.setRow w.heap.size #[.bool (Rn.recB X X.length), .bool (Rn.casB X X.length), .bool (Rn.strB X X.length)]) w.heap.size #[.bool (Rn.recB X X.length), .bool (Rn.casB X X.length), .bool (Rn.strB X X.length)] ∧ Below w.heap.size w (wr.setRow w.heap.size #[.bool (Rn.recB X X.length), .bool (Rn.casB X X.length), .bool (Rn.strB X X.length)])) := ⟨hA.out.res.row _, Below.row hA.out.bel (Nat.le_refl _) _⟩
      have j3 : decide ((X.length : Int) < (X.length : Int)) = false := by simp
      clear hA
      go_wp2_with fail
      exact bodyPost_ret (A2.out.1.result3 rfl rfl) rfl ⟨rfl, A2.out.2⟩
    obtain ⟨x, hx⟩ : ∃ x, X[k]? = some x := ⟨_, List.getElem?_eq_getElem hlt⟩
    obtain ⟨b, o, rfl, d1, d2, d3⟩ := (H.out.below hA.out.bel) k x hx
    have k0 : (0 : Int) ≤ (k : Int) := by omega
    have k1 : (k : Int) < (X.length : Int) := by omega
    have kc : (k : Int) ≤ (c : Int) := by omega
    have g := Rn.good_at HC.out hx
    have GX := hid g
    have g0 := g.k0
    have g1 := g.k1
    have hr3 := hid (rec_three HC.out hx)
    have hrn := hid (rec_not hx)
    have h2n := hid (two_not hx)
    have HT2 := hid (fun h => two_cases HC.out hx h)
    clear hx g
    obtain ⟨ox, ok, oi⟩ := x
    simp only at d1 d2 d3 g0 g1
    obtain ⟨r1, hr1⟩ : ∃ y, y = Rn.recB X k := ⟨_, rfl⟩
    obtain ⟨c1, hc1⟩ : ∃ y, y = Rn.casB X k := ⟨_, rfl⟩
    obtain ⟨s1, hs1⟩ : ∃ y, y = Rn.strB X k := ⟨_, rfl⟩
    rw [← hr1] at hr3 hrn
    rw [← hc1, ← hs1] at h2n HT2
    simp only at HT2
    rw [← hr1, ← hc1, ← hs1] at hA
    clear hr1 hc1 hs1
    obtain ⟨wk, hwk⟩ : ∃ wk, wk = wr := ⟨_, rfl⟩
    rw [← hwk] at d1 d2 d3 hA ⊢
    clear hwk
    obtain ⟨M, hM⟩ : ∃ M, M = wk.heap.size := ⟨_, rfl⟩
    have hMw : w.heap.size + 1 < M := by rw [hM]; exact hA.out.kind.lt
    obtain ⟨W0, hW0⟩ : ∃ W0, W0 = wk.alloc (.cells #[.int .i64 ox, .int .i64 ok, .int .i64 oi] 114) := ⟨_, rfl⟩
    have A0 : Hid (ArrAt W0 M #[.int .i64 ox, .int .i64 ok, .int .i64 oi] ∧ RkAt w W0 r1 c1 s1) := by rw [hW0, hM]; exact ⟨ArrAt.new wk _ _, hA.out.below (bx _ _)⟩
    have f1 := A0.out.1.cell (j := 1) (v := .int .i64 ok) rfl
    go_upto_region 5 with fail
    rw [← hM, ← hW0]
    clear hW0 hM hA d1 d2 d3
    by_cases h3 : ok = 3
    · have h3B : (ok == 3) = true := by simpa using h3
      have hr3 := hid (hr3.out h3)
      have h2n := hid (h2n.out (by simp only; omega))
      clear hrn HT2
      have h2k : (2 : Int) < ok := by omega
      clear h3
      go_wp2_with fail
      go_loopw [6, 7, 8, 25] (fun _ _ _ i wr => ∃ j : Nat, j ≤ k ∧ i = .int .i64 (j : Int) ∧ Hid (ArrAt wr M #[.int .i64 ox, .int .i64 ok, .int .i64 oi] ∧ RkAt w wr (r1 && recJ X k ox j) c1 s1)) (fun _ _ _ i _ => k - (intOf i).toNat)
      case atStart =>
        have e : (r1 && recJ X k ox 0) = r1 := Bool.and_true r1
        exact ⟨0, Nat.zero_le _, rfl, A0.out.1, by rw [e]; exact A0.out.2⟩
      case round =>
        clear A0 f1
        obtain ⟨j, hj, rfl, hA⟩ := hrel
        by_cases hjk : j < k
        rotate_left
        · obtain rfl : j = k := by omega
          have hF : Hid (RkAt w wr (Rn.recB X (j + 1)) (Rn.casB X (j + 1)) (Rn.strB X (j + 1))) := by rw [hr3.out, h2n.out.1, h2n.out.2]; exact hA.out.2
          have f1 := hA.out.1.cell (j := 1) (v := .int .i64 ok) rfl
          have j3 : decide ((j : Int) < (j : Int)) = false := by simp
          clear hA
          go_wp2_with fail
          go_roundw
          case rel => first
            | exact ⟨j + 1, by omega, by go_num, hF⟩
            | ((repeat apply Exists.intro); exact ⟨⟨j + 1, by omega, by go_num, hF⟩, rfl⟩)
          case measure => simp [intOf]; omega
        obtain ⟨y, hy⟩ : ∃ y, X[j]? = some y := ⟨_, List.getElem?_eq_getElem (by omega)⟩
        obtain ⟨b', o', e, u1, u2, u3⟩ := (H.out.below hA.out.2.bel) j y hy
        injection e with e
        injection e with q1 q2
        subst q1; subst q2
        have j0 : (0 : Int) ≤ (j : Int) := by omega
        have j1 : (j : Int) < (k : Int) := by omega
        have j2 : (j : Int) < (X.length : Int) := by omega
        have jc : (j : Int) ≤ (c : Int) := by omega
        have GY := hid (Rn.good_at HC.out hy)
        have HN := hid (recJ_next (k := k) (t := ox) hy)
        have HH0 : Hid (¬ (y.x = ox ∧ y.k = 1) → hitR X k ox j y = true) := fun h => by unfold hitR; rw [if_neg h]
        have HH1 := hid (hit_cases (X := X) (k := k) (j := j) (t := ox) (p := y) (by omega))
        clear hy
        obtain ⟨yx, yk, yi⟩ := y
        simp only at u1 u2 u3
        have KW := hid fun W h => KW.out W j yi h (by omega)
        obtain ⟨J, hJ⟩ : ∃ J, J = recJ X k ox j := ⟨_, rfl⟩
        obtain ⟨J', hJ'⟩ : ∃ J, J = recJ X k ox (j + 1) := ⟨_, rfl⟩
        obtain ⟨Ht, hHt⟩ : ∃ J, J = hitR X k ox j ⟨yx, yk, yi⟩ := ⟨_, rfl⟩
        rw [← hJ, ← hJ', ← hHt] at HN
        rw [← hHt] at HH0 HH1
        simp only at HH0 HH1
        rw [← hJ] at hA
        have HJ := hid hJ'
        clear hJ hJ' hHt
        obtain ⟨P, hP⟩ : ∃ P, P = wr.heap.size := ⟨_, rfl⟩
        obtain ⟨W1, hW1⟩ : ∃ W1, W1 = wr.alloc (.cells #[.int .i64 yx, .int .i64 yk, .int .i64 yi] 114) := ⟨_, rfl⟩
        have A1 : Hid (ArrAt W1 M #[.int .i64 ox, .int .i64 ok, .int .i64 oi] ∧ ArrAt W1 P #[.int .i64 yx, .int .i64 yk, .int .i64 yi] ∧ RkAt w W1 (r1 && J) c1 s1) := by rw [hW1, hP]; exact ⟨hA.out.1.below (bx _ _), ArrAt.new wr _ _, hA.out.2.below (bx _ _)⟩
        go_upto_region 9 with fail
        rw [← hP, ← hW1]
        clear hW1 hP hA u1 u2 u3
        have f0 := A1.out.1.cell (j := 0) (v := .int .i64 ox) rfl
        have v0 := A1.out.2.1.cell (j := 0) (v := .int .i64 yx) rfl
        have v1 := A1.out.2.1.cell (j := 1) (v := .int .i64 yk) rfl
        have v2 := A1.out.2.1.cell (j := 2) (v := .int .i64 yi) rfl
        go_cut [39] from 30 to 39 (fun v wx => v = .bool (!decide (yx = ox ∧ yk = 1)) ∧ wx = W1)
        case first =>
          by_cases c1 : yx = ox
          · by_cases c2 : yk = 1
            · have e : decide (yx = ox ∧ yk = 1) = true := decide_eq_true ⟨c1, c2⟩
              have c1B : (yx != ox) = false := by simpa using c1
              have c2B : (yk != 1) = false := by simpa using c2
              clear c1 c2
              go_wp2_with fail
              go_meet
              exact ⟨by rw [e]; rfl, rfl⟩
            · have e : decide (yx = ox ∧ yk = 1) = false := decide_eq_false fun h => c2 h.2
              have c1B : (yx != ox) = false := by simpa using c1
              have c2B : (yk != 1) = true := by simpa using c2
              clear c1 c2
              go_wp2_with fail
              go_meet
              exact ⟨by rw [e]; rfl, rfl⟩
          · have e : decide (yx = ox ∧ yk = 1) = false := decide_eq_false fun h => c1 h.1
            have c1B : (yx != ox) = true := by simpa using c1
            clear c1
            go_wp2_with fail
            go_meet
            exact ⟨by rw [e]; rfl, rfl⟩
        case rest =>
          obtain ⟨rfl, rfl⟩ := hcut
          by_cases cc : yx = ox ∧ yk = 1
          rotate_left
          · rw [decide_eq_false cc]
            have HF : Hid (RkAt w wc (r1 && recJ X k ox (j + 1)) c1 s1) := by
              rw [← HJ.out, HN.out, HH0.out cc, Bool.and_true]; exact A1.out.2.2
            have HM := hid A1.out.1
            clear A1 cc HJ HN HH0 HH1
            go_wp2_with fail
            go_roundw
            case rel => first
              | exact ⟨j + 1, by omega, by go_num, HM.out, HF.out⟩
              | ((repeat apply Exists.intro); exact ⟨⟨j + 1, by omega, by go_num, HM.out, HF.out⟩, rfl⟩)
            case measure => simp [intOf]; omega
          · rw [decide_eq_true cc]
            have cx := cc.1
            have ck := cc.2
            have HH := hid (HH1.out cc)
            clear HH0 HH1 cc
            subst cx
            clear ck
            obtain ⟨V, hV⟩ : ∃ V, V = wrI X j yi j := ⟨_, rfl⟩
            rw [← hV] at KW HH
            clear hV
            go_wp2_with fail
            refine (KW.out _ (H.out.below A1.out.2.2.bel)).mono ?_
            rintro r w2 ⟨rfl, hb2⟩
            have A2 : Hid (ArrAt w2 M #[.int .i64 yx, .int .i64 ok, .int .i64 oi] ∧ RkAt w w2 (r1 && J) c1 s1) := ⟨A1.out.1.below hb2, A1.out.2.2.below hb2⟩
            clear hb2 A1 f0 v0 v1 v2 KW
            go_upto_region 11 with fail
            go_cut [68] from 45 to 68 (fun v wx => v = .bool (!Ht) ∧ Hid (ArrAt wx M #[.int .i64 yx, .int .i64 ok, .int .i64 oi] ∧ RkAt w wx (r1 && J) c1 s1))
            case first =>
              have f0 := A2.out.1.cell (j := 0) (v := .int .i64 yx) rfl
              have AN := fun n => hid (And.intro (A2.out.1.below (below_drewN (Below.refl _ _) n)) (A2.out.2.below (below_drewN (Below.refl _ _) n)))
              rcases HH.out with ⟨rfl, hh⟩ | ⟨q, z, rfl, hz, hq, hh⟩
              · clear HH
                simp only [wrN]
                go_quiet (fail)
                all_goals
                  go_wp2_with fail
                  go_meet
                  exact ⟨by rw [hh]; rfl, (AN _).out⟩
              · clear HH
                simp only [wrN]
                have q0 : (0 : Int) ≤ (q : Int) := by omega
                have q1 : (q : Int) < (X.length : Int) := by omega
                have x0 := op_cells H.out A2.out.2.bel hz
                rcases hh with ⟨e, hh⟩ | ⟨e, hh⟩
                · have eB : (z.x != yx) = false := by simpa using e
                  clear e
                  go_quiet (fail)
                  all_goals
                    go_wp2_with fail
                    go_meet
                    exact ⟨by rw [hh]; rfl, (AN _).out⟩
                · have eB : (z.x != yx) = true := by simpa using e
                  have gz := Rn.good_at HC.out hz
                  have gz0 := gz.x0
                  have gz1 := gz.x1
                  obtain ⟨f, hf⟩ : ∃ f : Nat, z.x = (f : Int) := ⟨z.x.toNat, by omega⟩
                  have KH := hid fun W h => KH.out W k z.x h
                  rw [hf] at eB x0 KH hh
                  have hme := mem_com HC.out k (t := f) (by omega)
                  rw [hme] at KH
                  obtain ⟨cf, hcf⟩ : ∃ y, y = Rn.com (X.take k) f := ⟨_, rfl⟩
                  rw [← hcf] at KH
                  have hh : Hid (Ht = cf) := by show _ = _; rw [hh, hcf]; rfl
                  have HZ := hid hz
                  have HF := hid hf
                  clear e gz gz0 gz1 hf hcf hme hz
                  have htl : (X.take k).length = k := by rw [List.length_take]; omega
                  rw [htl] at KH
                  clear htl
                  have HT := hid (H.out.take k)
                  have SB : Hid (∀ W, Below w2.heap.size w2 W → W.cell? ⟨M, 0, none⟩ = some (.int .i64 yx) ∧ W.cell? ⟨b, o + q * 3, none⟩ = some (.int .i64 (f : Int))) := fun W hW => ⟨(A2.out.1.below hW).cell (j := 0) (v := .int .i64 yx) rfl, by have := op_cells H.out (below_tr A2.out.2.bel hW) HZ.out; rw [HF.out] at this; exact this⟩
                  clear f0 x0
                  go_region_held3 (fun W => W.cell? ⟨M, 0, none⟩ = some (.int .i64 yx) ∧ W.cell? ⟨b, o + q * 3, none⟩ = some (.int .i64 (f : Int)))
                    ((refine SB.out _ ?_; first | exact B3.out | repeat (first | exact Below.refl _ _ | refine Below.drew ?_)))
                    ((go_at_call 73; refine (KH.out _ (HT.out.below A2.out.2.drew.bel)).mono ?_; rintro r w3 ⟨rfl, hb3⟩; have B3 : Hid (Below w2.heap.size w2 w3) := below_tr (Below.refl _ _).drew hb3; clear hb3))
                  all_goals
                    go_wp2_with fail
                    go_meet
                    exact ⟨by rw [hh.out], A2.out.1.below B3.out, A2.out.2.below B3.out⟩
            case rest =>
              obtain ⟨rfl, hA⟩ := hcut
              clear A2 HH
              cases Ht with
              | true =>
                have HF : Hid (RkAt w wc (r1 && recJ X k yx (j + 1)) c1 s1) := by
                  rw [← HJ.out, HN.out, Bool.and_true]; exact hA.out.2
                have HM := hid hA.out.1
                clear hA HJ HN
                go_wp2_with fail
                go_roundw
                case rel => first
                  | exact ⟨j + 1, by omega, by go_num, HM.out, HF.out⟩
                  | ((repeat apply Exists.intro); exact ⟨⟨j + 1, by omega, by go_num, HM.out, HF.out⟩, rfl⟩)
                case measure => simp [intOf]; omega
              | false =>
                have q1 := hA.out.2.kind.cell (j := 0) (v := .bool (r1 && J)) rfl
                have q2 := hA.out.2.kind.fz 0
                have HF : Hid (RkAt w (wc.setCell ⟨w.heap.size + 1, 0, none⟩ (.bool false)) (r1 && recJ X k yx (j + 1)) c1 s1) := by
                  rw [← HJ.out, HN.out, Bool.and_false, Bool.and_false]; exact hA.out.2.put 0 false rfl
                have HM : Hid (ArrAt (wc.setCell ⟨w.heap.size + 1, 0, none⟩ (.bool false)) M #[.int .i64 yx, .int .i64 ok, .int .i64 oi]) := hA.out.1.apart (by omega) _ _
                clear hA HJ HN
                go_wp2_with fail
                go_roundw
                case rel => first
                  | exact ⟨j + 1, by omega, by go_num, HM.out, HF.out⟩
                  | ((repeat apply Exists.intro); exact ⟨⟨j + 1, by omega, by go_num, HM.out, HF.out⟩, rfl⟩)
                case measure => simp [intOf]; omega
    · have h3B : (ok == 3) = false := by simpa using h3
      have hrn := hid (hrn.out h3)
      clear hr3
      by_cases h2 : 2 < ok
      · have h2n := hid (h2n.out h2)
        have hF : Hid (RkAt w W0 (Rn.recB X (k + 1)) (Rn.casB X (k + 1)) (Rn.strB X (k + 1))) := by rw [hrn.out, h2n.out.1, h2n.out.2]; exact A0.out.2
        have hd : decide (ok > 2) = true := decide_eq_true h2
        clear A0 hrn h2n h3 HT2
        go_wp2_with fail
        go_roundw
        case rel => first
          | exact ⟨k + 1, by omega, by go_num, hF⟩
          | ((repeat apply Exists.intro); exact ⟨⟨k + 1, by omega, by go_num, hF⟩, rfl⟩)
        case measure => simp [intOf]; omega
      have hd : decide (ok > 2) = false := decide_eq_false h2
      have HT3 := hid (HT2.out (by omega))
      clear HT2
      have o12 : ok = 1 ∨ ok = 2 := by omega
      clear h2n h2 h3
      have f0 := A0.out.1.cell (j := 0) (v := .int .i64 ox) rfl
      have f2 := A0.out.1.cell (j := 2) (v := .int .i64 oi) rfl
      have KW := hid fun W h => KW.out W k oi h (by omega)
      obtain ⟨V, hV⟩ : ∃ V, V = wrI X k oi k := ⟨_, rfl⟩
      rw [← hV] at KW HT3
      clear hV
      go_wp2_with fail
      refine (KW.out _ (H.out.below A0.out.2.bel)).mono ?_
      rintro r w2 ⟨rfl, hb2⟩
      have A2 : Hid (ArrAt w2 M #[.int .i64 ox, .int .i64 ok, .int .i64 oi] ∧ RkAt w w2 r1 c1 s1) := ⟨A0.out.1.below hb2, A0.out.2.below hb2⟩
      clear hb2 A0 f0 f1 f2 KW
      go_upto_region 16 with fail
      have f0 := A2.out.1.cell (j := 0) (v := .int .i64 ox) rfl
      have AN := fun n => hid (And.intro (A2.out.1.below (below_drewN (Below.refl _ _) n)) (A2.out.2.below (below_drewN (Below.refl _ _) n)))
      rcases HT3.out with ⟨rfl, hh1, hh2⟩ | ⟨q, z, rfl, hz, hq, hh⟩
      · have hF : ∀ n, Hid (RkAt w (w2.drewN n) (Rn.recB X (k + 1)) (Rn.casB X (k + 1)) (Rn.strB X (k + 1))) := fun n => by rw [hrn.out, hh1, hh2]; exact (AN n).out.2
        clear HT3 hrn hh1 hh2 A2 AN
        simp only [wrN]
        go_quiet (fail)
        go_wp2_with fail
        go_roundw
        case rel => first
          | exact ⟨k + 1, by omega, by go_num, hF _⟩
          | ((repeat apply Exists.intro); exact ⟨⟨k + 1, by omega, by go_num, hF _⟩, rfl⟩)
        case measure => simp [intOf]; omega
      · clear HT3
        simp only [wrN]
        have q0 : (0 : Int) ≤ (q : Int) := by omega
        have q1 : (q : Int) < (X.length : Int) := by omega
        have x0 := op_cells H.out A2.out.2.bel hz
        rcases hh with ⟨e, hh1, hh2⟩ | ⟨e, hh1, hh2⟩
        · have hF : ∀ n, Hid (RkAt w (w2.drewN n) (Rn.recB X (k + 1)) (Rn.casB X (k + 1)) (Rn.strB X (k + 1))) := fun n => by rw [hrn.out, hh1, hh2]; exact (AN n).out.2
          have eB : (z.x == ox) = true := by simpa using e
          clear e hrn hh1 hh2 A2 AN
          go_quiet (fail)
          go_wp2_with fail
          go_roundw
          case rel => first
            | exact ⟨k + 1, by omega, by go_num, hF _⟩
            | ((repeat apply Exists.intro); exact ⟨⟨k + 1, by omega, by go_num, hF _⟩, rfl⟩)
          case measure => simp [intOf]; omega
        · have eB : (z.x == ox) = false := by simpa using e
          have HS := hid hh1
          have HC2 := hid hh2
          clear e hh1 hh2
          go_quiet (fail)
          have A3 := AN nq
          obtain ⟨w3, hw3⟩ : ∃ W, W = w2.drewN nq := ⟨_, rfl⟩
          rw [← hw3] at A3 ⊢
          clear hw3 AN A2 f0 x0
          have gz := Rn.good_at HC.out hz
          have gz0 := gz.x0
          have gz1 := gz.x1
          obtain ⟨f, hf⟩ : ∃ f : Nat, z.x = (f : Int) := ⟨z.x.toNat, by omega⟩
          have KH := hid fun W h => KH.out W k z.x h
          have x0 : Hid (∀ W, Below w.heap.size w W → W.cell? ⟨b, o + q * 3, none⟩ = some (.int .i64 (f : Int))) := fun W hW => by have := op_cells H.out hW hz; rw [hf] at this; exact this
          rw [hf] at KH HS HC2
          have hme := mem_com HC.out k (t := f) (by omega)
          rw [hme] at KH
          rw [Int.toNat_natCast] at HS HC2
          obtain ⟨cf, hcf⟩ : ∃ y, y = Rn.com (X.take k) f := ⟨_, rfl⟩
          rw [← hcf] at KH HS HC2
          have htl : (X.take k).length = k := by rw [List.length_take]; omega
          rw [htl] at KH
          have HT := hid (H.out.take k)
          clear gz gz0 gz1 hf hcf hme hz eB htl
          go_upto_region 17 with fail
          go_cut [100] from 91 to 100 (fun v wx => v = .bool (!cf) ∧ Hid (ArrAt wx M #[.int .i64 ox, .int .i64 ok, .int .i64 oi] ∧ RkAt w wx r1 c1 s1))
          case first =>
            have SB : Hid (∀ W, Below w3.heap.size w3 W → W.cell? ⟨b, o + q * 3, none⟩ = some (.int .i64 (f : Int))) := fun W hW => x0.out W (below_tr A3.out.2.bel hW)
            clear x0
            go_region_held3 (fun W => W.cell? ⟨b, o + q * 3, none⟩ = some (.int .i64 (f : Int)))
              ((refine SB.out _ ?_; first | exact B3.out | repeat (first | exact Below.refl _ _ | refine Below.drew ?_)))
              ((go_at_call 73; refine (KH.out _ (HT.out.below A3.out.2.drew.bel)).mono ?_; rintro r w4 ⟨rfl, hb3⟩; have B3 : Hid (Below w3.heap.size w3 w4) := below_tr (Below.refl _ _).drew hb3; clear hb3))
            all_goals
              go_wp2_with fail
              go_meet
              exact ⟨rfl, A3.out.1.below B3.out, A3.out.2.below B3.out⟩
          case rest =>
            obtain ⟨rfl, hA⟩ := hcut
            clear A3 KH HT x0
            cases cf with
            | true =>
              have hF : Hid (RkAt w wc (Rn.recB X (k + 1)) (Rn.casB X (k + 1)) (Rn.strB X (k + 1))) := by rw [hrn.out, HS.out, HC2.out, Bool.true_or, Bool.and_true, Bool.and_true]; exact hA.out.2
              clear hA HS HC2 hrn
              go_wp2_with fail
              go_roundw
              case rel => first
                | exact ⟨k + 1, by omega, by go_num, hF⟩
                | ((repeat apply Exists.intro); exact ⟨⟨k + 1, by omega, by go_num, hF⟩, rfl⟩)
              case measure => simp [intOf]; omega
            | false =>
              have q1 := hA.out.2.kind.cell (j := 1) (v := .bool c1) rfl
              have q2 := hA.out.2.kind.fz 1
              have q3 := hA.out.2.kind.cell (j := 2) (v := .bool s1) rfl
              have q4 := hA.out.2.kind.fz 2
              have A5 : Hid (RkAt w (wc.setCell ⟨w.heap.size + 1, 2, none⟩ (.bool false)) r1 c1 false ∧ ArrAt (wc.setCell ⟨w.heap.size + 1, 2, none⟩ (.bool false)) M #[.int .i64 ox, .int .i64 ok, .int .i64 oi]) := ⟨hA.out.2.put 2 false rfl, hA.out.1.apart (by omega) _ _⟩
              have A6 : Hid (∀ v, RkAt w ((wc.setCell ⟨w.heap.size + 1, 2, none⟩ (.bool false)).setCell ⟨w.heap.size + 1, 1, none⟩ (.bool v)) r1 v false) := fun v => A5.out.1.put 1 v rfl
              have q5 := A5.out.1.kind.cell (j := 1) (v := .bool c1) rfl
              have q6 := A5.out.1.kind.fz 1
              have q7 := A5.out.2.cell (j := 1) (v := .int .i64 ok) rfl
              have f1 := hA.out.1.cell (j := 1) (v := .int .i64 ok) rfl
              cases c1 with
              | false =>
                have hF : Hid (RkAt w ((wc.setCell ⟨w.heap.size + 1, 2, none⟩ (.bool false)).setCell ⟨w.heap.size + 1, 1, none⟩ (.bool false)) (Rn.recB X (k + 1)) (Rn.casB X (k + 1)) (Rn.strB X (k + 1))) := by rw [hrn.out, HS.out, HC2.out, Bool.false_and, Bool.and_false]; exact A6.out false
                clear A5 A6 hA HS HC2 hrn
                go_wp2_with fail
                go_roundw
                case rel => first
                  | exact ⟨k + 1, by omega, by go_num, hF⟩
                  | ((repeat apply Exists.intro); exact ⟨⟨k + 1, by omega, by go_num, hF⟩, rfl⟩)
                case measure => simp [intOf]; omega
              | true =>
                by_cases k2 : ok = 2
                · have k2b : (ok != 1) = true := by simp; omega
                  have hF : Hid (RkAt w ((wc.setCell ⟨w.heap.size + 1, 2, none⟩ (.bool false)).setCell ⟨w.heap.size + 1, 1, none⟩ (.bool true)) (Rn.recB X (k + 1)) (Rn.casB X (k + 1)) (Rn.strB X (k + 1))) := by rw [hrn.out, HS.out, HC2.out, decide_eq_true k2, Bool.or_true, Bool.and_true, Bool.and_false]; exact A6.out true
                  clear A5 A6 hA HS HC2 hrn k2 o12
                  go_wp2_with fail
                  go_roundw
                  case rel => first
                    | exact ⟨k + 1, by omega, by go_num, hF⟩
                    | ((repeat apply Exists.intro); exact ⟨⟨k + 1, by omega, by go_num, hF⟩, rfl⟩)
                  case measure => simp [intOf]; omega
                · have k2b : (ok != 1) = false := by simp; omega
                  have hF : Hid (RkAt w ((wc.setCell ⟨w.heap.size + 1, 2, none⟩ (.bool false)).setCell ⟨w.heap.size + 1, 1, none⟩ (.bool false)) (Rn.recB X (k + 1)) (Rn.casB X (k + 1)) (Rn.strB X (k + 1))) := by rw [hrn.out, HS.out, HC2.out, decide_eq_false k2, Bool.or_false, Bool.and_false, Bool.and_false]; exact A6.out false
                  clear A5 A6 hA HS HC2 hrn k2 o12
                  go_wp2_with fail
                  go_roundw
                  case rel => first
                    | exact ⟨k + 1, by omega, by go_num, hF⟩
                    | ((repeat apply Exists.intro); exact ⟨⟨k + 1, by omega, by go_num, hF⟩, rfl⟩)
                  case measure => simp [intOf]; omega
end Go.Proofs.Ytlhkkhojfndoiab.PRun
