/- run.Kinds, walked: it answers what the plain functions say, and nothing that was there has turned. Condition: the operations lie where their slice says. -/
import Derived.Test.YtlhkkhojfndoiabRunKnd
import Derived.Deep.CutRange
import Derived.BigQuiet
namespace Go.Proofs.Ytlhkkhojfndoiab.PRun
open Go Go.RowKit PPool PGraph
set_option maxRecDepth 100000
/-- Three bools, and a whole store of them. -/
def kV (r c s : Bool) : Array Value := #[.bool r, .bool c, .bool s]
theorem kind_info : (Try.prog.info? 71).map (fun i => (i.zero, i.size)) = some (some (.agg (kV false false false)), 3) := by kernel_rfl
def loadK (v : Value) : Sem Value := Instr.loadAt 71 v
theorem loadK_pre (v : Value) : Instr.loadAt 71 v = loadK v := rfl
theorem run_loadK {W : World} {b : Nat} {r c s : Bool} (h : ArrAt W b #[.bool r, .bool c, .bool s]) : (loadK (.pointer (some ⟨b, 0, none⟩))).run Try.prog W = .ok (.agg #[.bool r, .bool c, .bool s]) W :=
  run_loadAt_mid (P := Try.prog) W b 0 71 [.bool r, .bool c, .bool s] _ h.range Try.underlying71 rfl (zero_of_info kind_info).2
def storeK (v x : Value) : Sem Unit := Instr.storeAt 71 v x
theorem storeK_pre (v x : Value) : Instr.storeAt 71 v x = storeK v x := rfl
theorem run_storeK {W : World} {b : Nat} {r0 c0 s0 r c s : Bool} (h : ArrAt W b #[.bool r0, .bool c0, .bool s0]) : (storeK (.pointer (some ⟨b, 0, none⟩)) (.agg #[.bool r, .bool c, .bool s])).run Try.prog W = .ok () (W.setRow b #[.bool r, .bool c, .bool s]) := by
  obtain ⟨T, h⟩ := h
  have := run_storeVar_row (P := Try.prog) W b T 71 _ #[.bool r, .bool c, .bool s] h (zero_of_info kind_info).2 rfl (all_oneCell_toArray (cs := [.bool r, .bool c, .bool s]) (fun v hv => by simp only [List.mem_cons, List.not_mem_nil, or_false] at hv; rcases hv with rfl | rfl | rfl <;> rfl))
  unfold storeK
  simp only [Instr.storeAt, Instr.sureAddr, Sem.run_bind, Sem.run_pure, Result.andThen_ok, this]
/-- Three bools and an error as the results. -/
theorem ArrAt.result2 {w : World} {b : Nat} {r c s : Bool} (h : ArrAt w b #[.bool r, .bool c, .bool s]) {fn : Func} {p u : Tmp} (hf : fn.results = #[.cell p 71, .tmp u]) {tmps : Array Value} {v : Value} (hp : tmps.getD p undef = .pointer (some ⟨b, 0, none⟩)) (hv : tmps.getD u undef = v) :
    (results fn tmps).run Try.prog w = .ok (.tuple #[.agg #[.bool r, .bool c, .bool s], v]) w := by
  obtain ⟨T, h⟩ := h
  rw [results_cell_tmp hf, hp, hv]
  have := run_loadVar_row (P := Try.prog) w b T 71 #[.bool r, .bool c, .bool s] (0, 0) _ h Try.underlying71 rfl (zero_of_info kind_info).2
  simp [asAddr, Result.andThen, this]
attribute [local go_sem ↓] loadE_pre storeE_pre loadB_pre loadK_pre storeK_pre

def kndR (X : List Rn.Op) : Bool := if Rn.check X = 0 then Rn.recB X X.length else false
def kndC (X : List Rn.Op) : Bool := if Rn.check X = 0 then Rn.casB X X.length else false
def kndS (X : List Rn.Op) : Bool := if Rn.check X = 0 then Rn.strB X X.length else false

set_option maxHeartbeats 4000000 in
theorem kinds_any (w : World) (a : Option Addr) (c : Nat) (X : List Rn.Op) (h : OpAt w a X) (hl : X.length ≤ 9223372036854775807) (hcap : X.length ≤ c) :
    Calls Try.prog 31 #[.slice a X.length c] w fun e w' => e = .returned (.tuple #[.agg #[.bool (kndR X), .bool (kndC X), .bool (kndS X)], .int .i64 (Rn.check X)]) ∧ Below w.heap.size w w' := by
  have H := hid h
  have KC := hid fun W h => check_any W a c X h hl
  obtain ⟨v, hv⟩ : ∃ v, v = Rn.check X := ⟨_, rfl⟩
  rw [← hv] at KC ⊢
  obtain ⟨r0, hr0⟩ : ∃ r, r = kndR X := ⟨_, rfl⟩
  obtain ⟨c0, hc0⟩ : ∃ r, r = kndC X := ⟨_, rfl⟩
  obtain ⟨s0, hs0⟩ : ∃ r, r = kndS X := ⟨_, rfl⟩
  rw [← hr0, ← hc0, ← hs0]
  have HV := hid hv
  have H0 : Hid (v ≠ 0 → r0 = false ∧ c0 = false ∧ s0 = false) := fun hn => by
    have hn' : ¬ Rn.check X = 0 := by rw [← hv]; exact hn
    rw [hr0, hc0, hs0]; unfold kndR kndC kndS
    rw [if_neg hn', if_neg hn', if_neg hn']; exact ⟨rfl, rfl, rfl⟩
  have H1 : Hid (v = 0 → r0 = Rn.recB X X.length ∧ c0 = Rn.casB X X.length ∧ s0 = Rn.strB X X.length) := fun hn => by
    have hn' : Rn.check X = 0 := by rw [← hv]; exact hn
    rw [hr0, hc0, hs0]; unfold kndR kndC kndS
    rw [if_pos hn', if_pos hn', if_pos hn']; exact ⟨rfl, rfl, rfl⟩
  clear hv hr0 hc0 hs0 h
  have hz := (zero_of_info ends_info).1
  have hz2 := (zero_of_info pairs_info).1
  have KA : ∀ x y z T, Hid (ArrAt (w.alloc (.cells #[x, y, z] T)) w.heap.size #[x, y, z] ∧ Below w.heap.size w (w.alloc (.cells #[x, y, z] T))) := fun x y z T => ⟨ArrAt.new w _ _, bx _ _⟩
  go_enter Try.func31, Try.ntmps31
  go_wp2_with fail
  refine (KC.out _ (H.out.below (KA _ _ _ _).out.2)).mono ?_
  rintro r w1 ⟨rfl, hb1⟩
  have A1 : Hid (ArrAt w1 w.heap.size #[.bool false, .bool false, .bool false] ∧ Below w.heap.size w w1) := ⟨(KA _ _ _ _).out.1.below hb1, below_tr (KA _ _ _ _).out.2 hb1⟩
  clear KA hb1 KC
  have hsk := fun r c s => run_storeK (r := r) (c := c) (s := s) A1.out.1
  by_cases hv : v = 0
  rotate_left
  · obtain ⟨rfl, rfl, rfl⟩ := H0.out hv
    have hv0 : (v != 0) = true := by simpa using hv
    have A2 : Hid (ArrAt (w1.setRow w.heap.size #[.bool false, .bool false, .bool false]) w.heap.size #[.bool false, .bool false, .bool false] ∧ Below w.heap.size w (w1.setRow w.heap.size #[.bool false, .bool false, .bool false])) := ⟨A1.out.1.row _, Below.row A1.out.2 (Nat.le_refl _) _⟩
    clear H1 HV hv H0 A1
    go_wp2_with fail
    exact bodyPost_ret (A2.out.1.result2 rfl rfl rfl) rfl ⟨rfl, A2.out.2⟩
  · have H2 := hid (H1.out hv)
    have HV1 : Hid (Rn.check X = 0) := by show _ = _; rw [← HV.out]; exact hv
    subst hv
    clear H0 HV H1 hsk
    obtain ⟨N, hN⟩ : ∃ N, N = w1.heap.size := ⟨_, rfl⟩
    have hst : ∀ T : TypeId, (storeK (.pointer (some ⟨N, 0, none⟩)) (.agg #[.bool true, .bool true, .bool true])).run Try.prog (w1.alloc (.cells #[.bool false, .bool false, .bool false] T)) = .ok () (w1.alloc (.cells #[.bool true, .bool true, .bool true] T)) := fun T => by
      have e := World.setRow_alloc_new w1 #[.bool false, .bool false, .bool false] #[.bool true, .bool true, .bool true] T
      rw [← e, hN]
      exact run_storeK (ArrAt.new w1 _ T)
    have KZ : ∀ T1 T2 T3, Hid (KAt w (((w1.alloc (.cells #[.bool true, .bool true, .bool true] T1)).alloc (.cells (eA fun _ => 0) T2)).alloc (.cells (pA fun _ _ => false) T3)) N true true true (Rn.ends []) (Rn.reads X 0)) := fun T1 T2 T3 => by
      subst hN
      have e1 : (w1.alloc (.cells #[.bool true, .bool true, .bool true] T1)).heap.size = w1.heap.size + 1 := by simp
      have e2 : ((w1.alloc (.cells #[.bool true, .bool true, .bool true] T1)).alloc (.cells (eA fun _ => 0) T2)).heap.size = w1.heap.size + 2 := by simp
      refine ⟨A1.out.1.below (below_tr (bx _ _) (bx2 _ _ _)), (ArrAt.new w1 _ _).below (bx2 _ _ _), ?_, ?_, below_tr A1.out.2 (below_tr (bx _ _) (bx2 _ _ _)), A1.out.1.lt⟩
      · have := ArrAt.new (w1.alloc (.cells #[.bool true, .bool true, .bool true] T1)) (eA fun _ => 0) T2
        rw [e1] at this
        exact this.below (bx _ _)
      · have := ArrAt.new ((w1.alloc (.cells #[.bool true, .bool true, .bool true] T1)).alloc (.cells (eA fun _ => 0) T2)) (pA fun _ _ => false) T3
        rw [e2] at this
        exact this
    clear A1
    have KB := hid fun W E o h0 h1 => behind_any W E o h0 h1
    have KL := hid fun W Y E o h1 h2 h3 => lastOther_any W a c Y E o h1 h2 h3
    have KA := hid fun W E R => allCommitted_any W E R
    have KM := hid fun W E t ht => committed_any W E t ht
    have GX : Hid (∀ o ∈ X, Rn.Good o) := fun o ho => Rn.good_mem HV1.out ho
    rw [hN] at hst
    go_wp2_with fail
    go_loopw [8, 9, 10, 11, 21] (fun _ _ _ _ i wr => ∃ k : Nat, k ≤ X.length ∧ i = .int .i64 (k : Int) ∧ Hid (KAt w wr N (Rn.recB X k) (Rn.casB X k) (Rn.strB X k) (Rn.ends (X.take k)) (Rn.reads X k))) (fun _ _ _ _ i _ => X.length - (intOf i).toNat)
    case atStart => exact ⟨0, Nat.zero_le _, rfl, KZ _ _ _⟩
    case round =>
      clear KZ hst
      rw [← hN]
      obtain ⟨k, hk, rfl, hA⟩ := hrel
      by_cases hlt : k < X.length
      · obtain ⟨x, hx⟩ : ∃ x, X[k]? = some x := ⟨_, List.getElem?_eq_getElem hlt⟩
        obtain ⟨b, o, rfl, d1, d2, d3⟩ := (H.out.below hA.out.bel) k x hx
        have k0 : (0 : Int) ≤ (k : Int) := by omega
        have k1 : (k : Int) < (X.length : Int) := by omega
        clear hN
        have GO := hid (GX.out x (List.mem_of_getElem? hx))
        have HX := hid hx
        have hop : Hid (OpAt w (some ⟨b, o, none⟩) (X.take k)) := H.out.take k
        have hXk : Hid (∀ o ∈ X.take k, 0 ≤ o.x ∧ o.x < 12) := fun q hq => ⟨(GX.out q (List.mem_of_mem_take hq)).x0, (GX.out q (List.mem_of_mem_take hq)).x1⟩
        have htl : (X.take k).length = k := by rw [List.length_take]; omega
        have KL := hid fun W (h : OpAt W (some ⟨b, o, none⟩) (X.take k)) => KL.out W (X.take k) (Rn.ends (X.take k)) x h (by omega) hXk.out
        rw [htl] at KL
        have KB := hid fun W => KB.out W (Rn.ends (X.take k)) x GO.out.x0 GO.out.x1
        have hrec := hid (recB_step hx)
        have hfs := hid (fun h => @from_lo_some (X.take k) x h)
        have hfn := hid (fun h => strB_none hx (@from_lo_none (X.take k) x h))
        have hss := hid (fun f h => @strB_some X k x f hx h)
        have hrr := hid (fun f h hk => @reads_read X k x f hx h hk GO.out.x0)
        have hrn := hid (reads_not hx)
        have hen := hid (ends_take hx)
        clear hx htl GX
        obtain ⟨r1, hr1⟩ : ∃ y, y = Rn.recB X k := ⟨_, rfl⟩
        obtain ⟨c1, hc1⟩ : ∃ y, y = Rn.casB X k := ⟨_, rfl⟩
        obtain ⟨s1, hs1⟩ : ∃ y, y = Rn.strB X k := ⟨_, rfl⟩
        rw [← hr1] at hrec
        rw [← hc1, ← hs1] at hfn hss
        rw [← hr1, ← hc1, ← hs1] at hA
        clear hr1 hc1 hs1
        obtain ⟨E, hE⟩ : ∃ E, E = Rn.ends (X.take k) := ⟨_, rfl⟩
        rw [← hE] at hA hrec hen KL KB hfs hfn hss
        clear hE
        obtain ⟨R, hR⟩ : ∃ R, R = Rn.reads X k := ⟨_, rfl⟩
        rw [← hR] at hA hrec hrr hrn hfn
        clear hR
        obtain ⟨p, hp⟩ : ∃ p, p = X.take k := ⟨_, rfl⟩
        rw [← hp] at hop KL hfs hfn hss hrr hXk
        clear hp HX H
        obtain ⟨ox, ok, oi⟩ := x
        have g0 := GO.out.x0
        have g1 := GO.out.x1
        have g2 := GO.out.ki
        simp only at d1 d2 d3 g0 g1 g2 KL KB hrec hfs hfn hss hrr hrn hen
        obtain ⟨t, rfl⟩ : ∃ t : Nat, ox = (t : Int) := ⟨ox.toNat, by omega⟩
        simp only [Int.toNat_natCast] at hrec hrr
        have t12 : t < 12 := by omega
        obtain ⟨M, hM⟩ : ∃ M, M = wr.heap.size := ⟨_, rfl⟩
        have hMN : N + 2 < M := by have := hA.out.rd.lt; omega
        have A0 : ∀ T, Hid (KAt w (wr.alloc (.cells #[.int .i64 (t : Int), .int .i64 ok, .int .i64 oi] T)) N r1 c1 s1 E R ∧ ArrAt (wr.alloc (.cells #[.int .i64 (t : Int), .int .i64 ok, .int .i64 oi] T)) M #[.int .i64 (t : Int), .int .i64 ok, .int .i64 oi]) := fun T => by
          refine ⟨hA.out.below (bx _ _), ?_⟩
          rw [hM]; exact ArrAt.new wr _ T
        go_upto_region 10 with fail
        rw [← hM]
        clear hM hA d1 d2 d3
        obtain ⟨W0, hW0⟩ : ∃ W0, W0 = wr.alloc (.cells #[.int .i64 (t : Int), .int .i64 ok, .int .i64 oi] 114) := ⟨_, rfl⟩
        have A0 : Hid (KAt w W0 N r1 c1 s1 E R ∧ ArrAt W0 M #[.int .i64 (t : Int), .int .i64 ok, .int .i64 oi]) := by rw [hW0]; exact A0 _
        rw [← hW0]
        clear hW0
        go_cut [37] from 26 to 37 (fun c wx => c = .bool (decide (ok = 3) && !allCom E (R t) 12) ∧ Hid (KAt w wx N r1 c1 s1 E R ∧ ArrAt wx M #[.int .i64 (t : Int), .int .i64 ok, .int .i64 oi]))
        case first =>
          have f1 := A0.out.2.cell (j := 1) (v := .int .i64 ok) rfl
          have f0 := A0.out.2.cell (j := 0) (v := .int .i64 (t : Int)) rfl
          have l6 := run_loadE A0.out.1.en
          have l6' := run_loadE A0.out.1.drew.en
          have lb := run_loadB (pA_row t12 A0.out.1.rd)
          have lb' := run_loadB (pA_row t12 A0.out.1.drew.rd)
          by_cases h3 : ok = 3
          · have h3' : (ok == 3) = true := by simpa using h3
            have h3d : decide (ok = 3) = true := decide_eq_true h3
            clear h3
            obtain ⟨z, hz⟩ : ∃ z, z = allCom E (R t) 12 := ⟨_, rfl⟩
            have KA := hid fun W => KA.out W E (R t)
            rw [← hz] at KA
            have HZ := hid hz
            clear hz
            go_region_with ((go_at_call 66; refine (KA.out _).mono ?_; rintro r w3 ⟨rfl, hb3⟩))
            all_goals
              go_wp2_with fail
              go_meet
              exact ⟨by rw [h3d, ← HZ.out]; rfl, A0.out.1.drew.below hb3, A0.out.2.drew.below hb3⟩
          · have h3' : (ok == 3) = false := by simpa using h3
            have h3d : decide (ok = 3) = false := decide_eq_false h3
            go_region
            all_goals
              go_wp2_with fail
              go_meet
              exact ⟨by rw [h3d]; rfl, A0.out.1.drew, A0.out.2.drew⟩
        case rest =>
          obtain ⟨rfl, hK⟩ := hcut
          obtain ⟨B, hB⟩ : ∃ B, B = (decide (ok = 3) && !allCom E (R t) 12) := ⟨_, rfl⟩
          have hrec2 : Hid (Rn.recB X (k + 1) = (r1 && !B)) := by
            show _ = _
            rw [hrec.out, hB]
            cases decide (ok = 3) <;> cases allCom E (R t) 12 <;> rfl
          rw [← hB]
          clear hrec hB A0 KA
          go_upto_if 37 with fail
          go_cut [] from 38 to 38 (fun wx => Hid (KAt w wx N (Rn.recB X (k + 1)) c1 s1 E R ∧ ArrAt wx M #[.int .i64 (t : Int), .int .i64 ok, .int .i64 oi]))
          case first =>
            cases B with
            | false =>
              have e : Hid (Rn.recB X (k + 1) = r1) := by show _ = _; rw [hrec2.out]; simp
              go_wp2_with fail
              go_meet
              rw [e.out]; exact hK
            | true =>
              have e : Hid (Rn.recB X (k + 1) = false) := by show _ = _; rw [hrec2.out]; simp
              have q1 := hK.out.1.kind.cell (j := 0) (v := .bool r1) rfl
              have q2 := hK.out.1.kind.fz 0
              go_wp2_with fail
              go_meet
              rw [e.out]
              exact ⟨hK.out.1.put 0 false rfl, hK.out.2.apart (by omega) _ _⟩
          case rest =>
            have hK := hcut
            clear hcut hrec2
            obtain ⟨V, hV⟩ : ∃ V, V = loV p E ⟨(t : Int), ok, oi⟩ := ⟨_, rfl⟩
            obtain ⟨Q, hQ⟩ : ∃ Q, Q = loB p E ⟨(t : Int), ok, oi⟩ := ⟨_, rfl⟩
            rw [← hV] at KL hfs
            rw [← hQ] at KL hfs hfn
            clear hV hQ
            obtain ⟨r2, hr2⟩ : ∃ y, y = Rn.recB X (k + 1) := ⟨_, rfl⟩
            rw [← hr2] at hK
            have HR2 := hid hr2
            clear hr2
            go_upto_region 12 with fail
            go_cut [10, 11] from 39 to 47 (fun f q wx => f = .int .i64 (V.getD 0) ∧ q = .bool Q ∧ Hid (KAt w wx N r2 c1 s1 E R ∧ ArrAt wx M #[.int .i64 (t : Int), .int .i64 ok, .int .i64 oi]))
            case first =>
              have l6 := run_loadE hK.out.1.en
              have l6' := run_loadE hK.out.1.drew.en
              have f0 := hK.out.2.cell (j := 0) (v := .int .i64 (t : Int)) rfl
              have f1 := hK.out.2.cell (j := 1) (v := .int .i64 ok) rfl
              have f2 := hK.out.2.cell (j := 2) (v := .int .i64 oi) rfl
              have hkc : (k : Int) ≤ (c : Int) := by omega
              have OP := hop.out.below hK.out.1.drew.bel
              go_region_with ((go_at_call 67; refine (KL.out _ OP).mono ?_; rintro r w3 ⟨rfl, hb3⟩))
              all_goals
                go_wp2_with fail
                go_meet
                exact ⟨rfl, rfl, hK.out.1.drew.below hb3, hK.out.2.drew.below hb3⟩
            case rest =>
              obtain ⟨rfl, rfl, hK2⟩ := hcut
              clear hK KL
              obtain ⟨f, hf⟩ : ∃ f : Nat, f = (V.getD 0).toNat := ⟨_, rfl⟩
              obtain ⟨R', hR'⟩ : ∃ y, y = Rn.reads X (k + 1) := ⟨_, rfl⟩
              obtain ⟨c', hc'⟩ : ∃ y, y = Rn.casB X (k + 1) := ⟨_, rfl⟩
              obtain ⟨s', hs'⟩ : ∃ y, y = Rn.strB X (k + 1) := ⟨_, rfl⟩
              rw [← hR', ← hc', ← hs'] at hfn
              rw [← hc', ← hs'] at hss
              rw [← hR'] at hrr hrn
              have hQt : Hid (Q = true → f < 12 ∧ V.getD 0 = (f : Int) ∧ s' = (s1 && decide (E f = 3)) ∧ c' = (c1 && (decide (E f = 3) || decide (ok = 2))) ∧ (ok = 1 → R' = lay R t f true)) := fun h => by
                obtain ⟨g, e1, e2, e3, e4, q, hq, e5⟩ := hfs.out h
                have hq2 := hXk.out q hq
                have e6 : V.getD 0 = g := by rw [e1]; rfl
                have e7 : g = (f : Int) := by omega
                rw [e7] at e3 e6
                obtain ⟨h1, h2⟩ := hss.out f e3
                exact ⟨by omega, e6, h1, h2, fun h => hrr.out f e3 h⟩
              have hR2 := hid hR'
              have hC2 := hid hc'
              have hS2 := hid hs'
              obtain ⟨F, hF⟩ : ∃ F, F = V.getD 0 := ⟨_, rfl⟩
              rw [← hF] at hQt ⊢
              clear hfs hss hrr hf hR' hc' hs' hF
              go_upto_region 13 with fail
              go_cut [11, 53] from 48 to 53 (fun d c wx => d = .bool Q ∧ c = .bool (Q && decide (ok = 1)) ∧ wx = wc)
              case first =>
                have f1 := hK2.out.2.cell (j := 1) (v := .int .i64 ok) rfl
                rcases Bool.eq_false_or_eq_true Q with hq | hq
                · go_wp2_with fail
                  go_meet
                  exact ⟨by rw [hq], by rw [hq]; rfl, rfl⟩
                · go_wp2_with fail
                  go_meet
                  exact ⟨by rw [hq], by rw [hq]; rfl, rfl⟩
              case rest =>
                obtain ⟨rfl, rfl, rfl⟩ := hcut
                obtain ⟨B2, hB2⟩ : ∃ B, B = (Q && decide (ok = 1)) := ⟨_, rfl⟩
                rw [← hB2]
                have e2 : Hid (B2 = false → R' = R) := fun h => by
                  cases Q with
                  | false => exact (hfn.out rfl).2.2
                  | true =>
                    rw [h] at hB2
                    simp at hB2
                    exact hrn.out hB2
                have e3 : Hid (B2 = true → R' = lay R t f true ∧ f < 12 ∧ F = (f : Int)) := fun h => by
                  rw [h] at hB2
                  have := hB2.symm
                  simp at this
                  have q := hQt.out this.1
                  exact ⟨q.2.2.2.2 this.2, q.1, q.2.1⟩
                clear hB2
                go_upto_if 53 with fail
                go_cut [] from 54 to 58 (fun wx => Hid (KAt w wx N r2 c1 s1 E R' ∧ ArrAt wx M #[.int .i64 (t : Int), .int .i64 ok, .int .i64 oi]))
                case first =>
                  cases B2 with
                  | false =>
                    have e : Hid (R' = R) := e2.out rfl
                    clear e2 e3
                    go_wp2_with fail
                    go_meet
                    rw [e.out]; exact hK2
                  | true =>
                    have e := hid (e3.out rfl).1
                    have f12 := (e3.out rfl).2.1
                    have fF := (e3.out rfl).2.2
                    clear e2 e3
                    subst fF
                    have f0' : (0 : Int) ≤ (f : Int) := by omega
                    have f1' : (f : Int) < 12 := by omega
                    have f0 := hK2.out.2.cell (j := 0) (v := .int .i64 (t : Int)) rfl
                    have q1 := hK2.out.1.rd.cell (pA_at R t12 f12)
                    have q2 := hK2.out.1.rd.fz (t * 12 + f)
                    have A4 : Hid (KAt w (wc.setCell ⟨N + 2, t * 12 + f, none⟩ (.bool true)) N r2 c1 s1 E R' ∧ ArrAt (wc.setCell ⟨N + 2, t * 12 + f, none⟩ (.bool true)) M #[.int .i64 (t : Int), .int .i64 ok, .int .i64 oi]) := by
                      rw [e.out]; exact ⟨hK2.out.1.lay t12 f12 true, hK2.out.2.apart (by omega) _ _⟩
                    go_wp2_with fail
                    go_meet
                    exact A4
                case rest =>
                  have hK3 := hid hcut.out
                  clear hcut hK2 e2 e3
                  go_upto_region 15 with fail
                  go_cut [11, 65] from 59 to 65 (fun d c wx => d = .bool Q ∧ c = .bool (Q && !decide (E f = 3)) ∧ Hid (KAt w wx N r2 c1 s1 E R' ∧ ArrAt wx M #[.int .i64 (t : Int), .int .i64 ok, .int .i64 oi]))
                  case first =>
                    rcases Bool.eq_false_or_eq_true Q with hq | hq
                    · have f12 := (hQt.out hq).1
                      have fF := (hQt.out hq).2.1
                      have KM := hid fun W => KM.out W E f f12
                      rw [← fF] at KM
                      clear fF
                      have l6 := run_loadE hK3.out.1.en
                      obtain ⟨z, hz⟩ : ∃ z, z = decide (E f = 3) := ⟨_, rfl⟩
                      rw [← hz] at KM
                      have HZ := hid hz
                      clear hz
                      go_wp2_with fail
                      refine (KM.out _).mono ?_
                      rintro r w4 ⟨rfl, hb4⟩
                      go_wp2_with fail
                      go_meet
                      exact ⟨by rw [hq], by rw [hq, ← HZ.out]; rfl, hK3.out.1.below hb4, hK3.out.2.below hb4⟩
                    · go_wp2_with fail
                      go_meet
                      exact ⟨by rw [hq], by rw [hq]; rfl, hK3⟩
                  case rest =>
                    obtain ⟨rfl, rfl, hK4⟩ := hcut
                    clear hK3
                    obtain ⟨B3, hB3⟩ : ∃ B, B = (Q && !decide (E f = 3)) := ⟨_, rfl⟩
                    rw [← hB3]
                    have e2 : Hid (B3 = false → s' = s1 ∧ c' = c1) := fun h => by
                      cases Q with
                      | false => exact ⟨(hfn.out rfl).1, (hfn.out rfl).2.1⟩
                      | true =>
                        rw [h] at hB3
                        have hz : decide (E f = 3) = true := by
                          have := hB3.symm
                          simpa using this
                        obtain ⟨_, _, h1, h2, _⟩ := hQt.out rfl
                        rw [h1, h2, hz]; simp
                    have e3 : Hid (B3 = true → s' = false ∧ c' = (c1 && decide (ok = 2))) := fun h => by
                      rw [h] at hB3
                      have := hB3.symm
                      rw [Bool.and_eq_true] at this
                      have hz : decide (E f = 3) = false := by simpa using this.2
                      obtain ⟨_, _, h1, h2, _⟩ := hQt.out this.1
                      rw [h1, h2, hz]; simp
                    clear hB3
                    go_upto_if 65 with fail
                    go_cut [] from 66 to 74 (fun wx => Hid (KAt w wx N r2 c' s' E R' ∧ ArrAt wx M #[.int .i64 (t : Int), .int .i64 ok, .int .i64 oi]))
                    case first =>
                      cases B3 with
                      | false =>
                        have e := hid (e2.out rfl)
                        clear e2 e3
                        go_wp2_with fail
                        go_meet
                        rw [e.out.1, e.out.2]; exact hK4
                      | true =>
                        have e1 := hid (e3.out rfl)
                        clear e2 e3
                        have q1 := hK4.out.1.kind.cell (j := 1) (v := .bool c1) rfl
                        have q2 := hK4.out.1.kind.fz 1
                        have q3 := hK4.out.1.kind.cell (j := 2) (v := .bool s1) rfl
                        have q4 := hK4.out.1.kind.fz 2
                        have f1 := hK4.out.2.cell (j := 1) (v := .int .i64 ok) rfl
                        have A5 : Hid (KAt w (wc.setCell ⟨N, 2, none⟩ (.bool false)) N r2 c1 false E R' ∧ ArrAt (wc.setCell ⟨N, 2, none⟩ (.bool false)) M #[.int .i64 (t : Int), .int .i64 ok, .int .i64 oi]) := ⟨hK4.out.1.put 2 false rfl, hK4.out.2.apart (by omega) _ _⟩
                        have A6 : Hid (∀ v, KAt w ((wc.setCell ⟨N, 2, none⟩ (.bool false)).setCell ⟨N, 1, none⟩ (.bool v)) N r2 v false E R' ∧ ArrAt ((wc.setCell ⟨N, 2, none⟩ (.bool false)).setCell ⟨N, 1, none⟩ (.bool v)) M #[.int .i64 (t : Int), .int .i64 ok, .int .i64 oi]) := fun v => ⟨A5.out.1.put 1 v rfl, A5.out.2.apart (by omega) _ _⟩
                        have q5 := A5.out.1.kind.cell (j := 1) (v := .bool c1) rfl
                        have q6 := A5.out.1.kind.fz 1
                        have q7 := A5.out.2.cell (j := 1) (v := .int .i64 ok) rfl
                        cases c1 with
                        | false =>
                          go_wp2_with fail
                          go_meet
                          rw [e1.out.1, e1.out.2]; exact A6.out false
                        | true =>
                          by_cases k2 : ok = 2
                          · have k2d : decide (ok = 2) = true := decide_eq_true k2
                            have k2b : (ok == 2) = true := by simpa using k2
                            clear k2
                            go_wp2_with fail
                            go_meet
                            rw [e1.out.1, e1.out.2, k2d]; exact A6.out true
                          · have k2d : decide (ok = 2) = false := decide_eq_false k2
                            have k2b : (ok == 2) = false := by simpa using k2
                            clear k2
                            go_wp2_with fail
                            go_meet
                            rw [e1.out.1, e1.out.2, k2d]; exact A6.out false
                    case rest =>
                      have hT := hid hcut.out
                      clear hcut hK4
                      obtain ⟨E', hE'⟩ : ∃ E', E' = fun u => Rn.fin (E u) ⟨(t : Int), ok, oi⟩ u := ⟨_, rfl⟩
                      rw [← hE'] at KB hen
                      clear hE'
                      have l6 := run_loadE hT.out.1.en
                      have f0 := hT.out.2.cell (j := 0) (v := .int .i64 (t : Int)) rfl
                      have f1 := hT.out.2.cell (j := 1) (v := .int .i64 ok) rfl
                      have f2 := hT.out.2.cell (j := 2) (v := .int .i64 oi) rfl
                      go_wp2_with fail
                      refine (KB.out _).mono ?_
                      rintro r w5 ⟨rfl, hb5⟩
                      have hs := run_storeE (E := E') (hT.out.1.en.below hb5)
                      have hF : Hid (KAt w (w5.setRow (N + 1) (eA E')) N (Rn.recB X (k + 1)) (Rn.casB X (k + 1)) (Rn.strB X (k + 1)) (Rn.ends (X.take (k + 1))) (Rn.reads X (k + 1))) := by
                        rw [← HR2.out, ← hC2.out, ← hS2.out, ← hR2.out, hen.out]
                        exact (hT.out.1.below hb5).row E'
                      clear hT hb5 KB hen l6 f0 f1 f2
                      go_wp2_with fail
                      go_roundw
                      case rel =>
                        first
                        | exact ⟨k + 1, by omega, by go_num, hF⟩
                        | ((repeat apply Exists.intro); exact ⟨⟨k + 1, by omega, by go_num, hF⟩, rfl⟩)
                      case measure => simp [intOf]; omega
      · obtain rfl : k = X.length := by omega
        have hls := run_loadK hA.out.kind
        have hss := run_storeK (r := Rn.recB X X.length) (c := Rn.casB X X.length) (s := Rn.strB X X.length) hA.out.res
        have A2 : Hid (ArrAt (wr.setRow w.heap.size #[.bool (Rn.recB X X.length), .bool (Rn.casB X X.length), .bool (Rn.strB X X.length)]) w.heap.size #[.bool (Rn.recB X X.length), .bool (Rn.casB X X.length), .bool (Rn.strB X X.length)] ∧ Below w.heap.size w (wr.setRow w.heap.size #[.bool (Rn.recB X X.length), .bool (Rn.casB X X.length), .bool (Rn.strB X X.length)])) := ⟨hA.out.res.row _, Below.row hA.out.bel (Nat.le_refl _) _⟩
        have j3 : decide ((X.length : Int) < (X.length : Int)) = false := by simp
        clear hA hN
        go_wp2_with fail
        exact bodyPost_ret (A2.out.1.result2 rfl rfl rfl) rfl ⟨by rw [H2.out.1, H2.out.2.1, H2.out.2.2]; rfl, A2.out.2⟩
end Go.Proofs.Ytlhkkhojfndoiab.PRun
