/- quirref.Edges, walked: it answers the edges that the plain words tell, and nothing that was there has turned. Conditions: the run is right; the capacity is no less than the length. -/
import Derived.Test.YtlhkkhojfndoiabRunRef
import Derived.Deep.CutRange
namespace Go.Proofs.Ytlhkkhojfndoiab.PRun
open Go Go.RowKit PPool PGraph
set_option maxRecDepth 100000

/-- Is there an edge from s to t by the first i operations, and of those behind the i-th one by the first k? -/
def isTo (X : List Rn.Op) (s t i k : Nat) : Bool := (List.range X.length).any fun b => (List.range b).any fun a => decide (a < i ∨ (a = i ∧ b < i + 1 + k)) && Rn.hit X a b s t
theorem isTo_iff {X : List Rn.Op} {s t i k : Nat} : isTo X s t i k = true ↔ ∃ a b p q, a < b ∧ (a < i ∨ (a = i ∧ b < i + 1 + k)) ∧ X[a]? = some p ∧ X[b]? = some q ∧ Rn.clash p q = true ∧ p.x = (s : Int) ∧ q.x = (t : Int) := by
  simp only [isTo, List.any_eq_true, List.mem_range, Bool.and_eq_true, decide_eq_true_eq, Rn.hit_iff]
  constructor
  · rintro ⟨b, hb, a, ha, h, p, q, r⟩; exact ⟨a, b, p, q, ha, h, r⟩
  · rintro ⟨a, b, p, q, ha, h, r1, r2, r⟩; exact ⟨b, (List.getElem?_eq_some_iff.1 r2).1, a, ha, h, p, q, r1, r2, r⟩
theorem isTo_start (X : List Rn.Op) (s t : Nat) : isTo X s t 0 0 = false := by
  apply Bool.eq_false_iff.2
  rw [Ne, isTo_iff]
  rintro ⟨a, b, p, q, h, h', _⟩
  omega
theorem isTo_round {X : List Rn.Op} {s t i k : Nat} (hk : X.length ≤ i + 1 + k) : isTo X s t i k = isTo X s t (i + 1) 0 := by
  apply Bool.eq_iff_iff.2
  rw [isTo_iff, isTo_iff]
  constructor
  · rintro ⟨a, b, p, q, h, h', r⟩; exact ⟨a, b, p, q, h, by omega, r⟩
  · rintro ⟨a, b, p, q, h, h', r1, r2, r⟩
    have := (List.getElem?_eq_some_iff.1 r2).1
    exact ⟨a, b, p, q, h, by omega, r1, r2, r⟩
theorem isTo_end (X : List Rn.Op) (s t : Nat) : isTo X s t X.length 0 = Rn.ahead X s t := by
  apply Bool.eq_iff_iff.2
  rw [isTo_iff, Rn.ahead_iff]
  constructor
  · rintro ⟨a, b, p, q, h, _, r⟩; exact ⟨a, b, p, q, h, r⟩
  · rintro ⟨a, b, p, q, h, r1, r⟩
    have := (List.getElem?_eq_some_iff.1 r1).1
    exact ⟨a, b, p, q, h, .inl this, r1, r⟩
theorem isTo_next {X : List Rn.Op} {s t i k : Nat} {p q : Rn.Op} (hp : X[i]? = some p) (hq : X[i + 1 + k]? = some q) : isTo X s t i (k + 1) = (isTo X s t i k || (decide (p.x = (s : Int)) && decide (q.x = (t : Int)) && Rn.clash p q)) := by
  apply Bool.eq_iff_iff.2
  simp only [isTo_iff, Bool.or_eq_true, Bool.and_eq_true, decide_eq_true_eq]
  constructor
  · rintro ⟨a, b, p', q', h, h', r1, r2, r3, r4, r5⟩
    by_cases e : a = i ∧ b = i + 1 + k
    · obtain ⟨rfl, rfl⟩ := e
      rw [hp] at r1; rw [hq] at r2
      injection r1 with r1; injection r2 with r2
      subst r1; subst r2
      exact .inr ⟨⟨r4, r5⟩, r3⟩
    · exact .inl ⟨a, b, p', q', h, by omega, r1, r2, r3, r4, r5⟩
  · rintro (⟨a, b, p', q', h, h', r⟩ | ⟨⟨r4, r5⟩, r3⟩)
    · exact ⟨a, b, p', q', h, by omega, r⟩
    · exact ⟨i, i + 1 + k, p, q, by omega, by omega, hp, hq, r3, r4, r5⟩
theorem edge_self (X : List Rn.Op) (i : Nat) : Rn.edge X i i = false := by
  apply Bool.eq_false_iff.2
  intro h
  unfold Rn.edge at h
  rw [Bool.and_eq_true, Bool.and_eq_true] at h
  exact Rn.ahead_ne h.1.1 rfl
theorem edge_skipL {X : List Rn.Op} {s t : Nat} {L : List Gr.Ed} (h : Rn.edge X s t = false) (hL : L = Rn.edgesTo X s t) : Rn.edgesTo X s (t + 1) = L := by rw [edge_skip X s t h, hL]
/-- A row of edges of one's own, and what is below it. -/
structure ReAt (w W : World) (v : Value) (L : List Gr.Ed) : Prop where
  out : OwnPg W w.heap.size v L
  bel : Below w.heap.size w W
theorem ReAt.below {w W W' : World} {v : Value} {L : List Gr.Ed} (h : ReAt w W v L) (hb : Below W.heap.size W W') : ReAt w W' v L := ⟨h.out.below hb, below_tr h.bel hb⟩

set_option maxHeartbeats 8000000 in
theorem redges_any (w : World) (a : Option Addr) (c : Nat) (X : List Rn.Op) (h : OpAt w a X) (hv : Rn.check X = 0) (hcap : X.length ≤ c) :
    Calls Try.prog 36 #[.slice a X.length c] w fun e w' => ∃ v, e = .returned v ∧ OwnPg w' w.heap.size v (Rn.edges X) ∧ Below w.heap.size w w' := by
  have H := hid h
  have HC := hid hv
  have l200 := (Rn.check_zero hv).1
  have KH := hid fun W t h => rhas_any W a c X t 3 h (by omega)
  have KC := hid fun W p q gp gq => rclash_any W p q gp gq
  obtain ⟨i0, hi, hz0, hz1, hz3⟩ := info_parts edge_info
  clear hv h
  go_enter Try.func36, Try.ntmps36
  go_wp2_with fail
  go_loopw [3, 4, 5, 6, 7, 8, 10, 11] (fun v _ _ _ _ _ _ i wr => ∃ (s : Nat) (V : Value), s ≤ 12 ∧ V = v ∧ i = .int .i64 (s : Int) ∧ Hid (ReAt w wr V (Rn.edgesTo X s 0))) (fun _ _ _ _ _ _ _ i _ => 12 - (intOf i).toNat)
  case atStart => exact ⟨0, _, Nat.zero_le _, rfl, rfl, by rw [Rn.edgesTo_start]; exact OwnPg.nil _ _, Below.refl _ _⟩
  case round =>
    obtain ⟨s, v, hs, rfl, rfl, hA⟩ := hrel
    by_cases hs12 : s < 12
    rotate_left
    · obtain rfl : s = 12 := by omega
      have hO : Hid (OwnPg wr w.heap.size v (Rn.edges X)) := hA.out.out
      have hB := hid hA.out.bel
      clear hA
      go_wp2_with fail
      go_ret
      exact ⟨_, rfl, hO.out, hB.out⟩
    have s0 : (0 : Int) ≤ (s : Int) := by omega
    have s1 : (s : Int) < 12 := by omega
    have hms := mem_all HC.out hs12
    obtain ⟨wk, hwk⟩ : ∃ wk, wk = wr := ⟨_, rfl⟩
    rw [← hwk] at hA ⊢
    clear hwk
    go_wp2_with fail
    go_loopw [3, 5, 6, 7, 8, 10, 14] (fun v _ _ _ _ _ i wr => ∃ (t : Nat) (V : Value), t ≤ 12 ∧ V = v ∧ i = .int .i64 (t : Int) ∧ Hid (ReAt w wr V (Rn.edgesTo X s t))) (fun _ _ _ _ _ _ i _ => 12 - (intOf i).toNat)
    case atStart => exact ⟨0, v, Nat.zero_le _, rfl, rfl, hA⟩
    case round =>
      clear hA
      obtain ⟨t, v, ht, rfl, rfl, hA⟩ := hrel
      by_cases ht12 : t < 12
      rotate_left
      · obtain rfl : t = 12 := by omega
        have hF : Hid (ReAt w wr v (Rn.edgesTo X (s + 1) 0)) := by rw [← Rn.edgesTo_round]; exact hA
        clear hA
        go_wp2_with fail
        go_roundw
        case rel => first
          | exact ⟨s + 1, v, by omega, rfl, by go_num, hF⟩
          | ((repeat apply Exists.intro); exact ⟨⟨s + 1, v, by omega, rfl, by go_num, hF⟩, rfl⟩)
        case measure => simp [intOf]; omega
      have t0 : (0 : Int) ≤ (t : Int) := by omega
      have t1 : (t : Int) < 12 := by omega
      have hmt := mem_all HC.out ht12
      have HN := hid (edge_next X s t)
      have HS := hid (edge_skip X s t)
      have hlen := Rn.edgesTo_len X s t (by omega) (by omega)
      have KS := hid fun W h => KH.out W (s : Int) h
      have KT := hid fun W h => KH.out W (t : Int) h
      rw [hms] at KS
      rw [hmt] at KT
      have HE : Hid (Rn.edge X s t = (Rn.ahead X s t && Rn.com X s && Rn.com X t)) := rfl
      have HSelf : Hid (s = t → Rn.edge X s t = false) := fun e => by rw [e]; exact edge_self X t
      obtain ⟨L, hL⟩ : ∃ L, L = Rn.edgesTo X s t := ⟨_, rfl⟩
      rw [← hL] at hA HN HS hlen
      have HL := hid hL
      clear hL hmt
      obtain ⟨cs, hcs⟩ : ∃ A, A = Rn.com X s := ⟨_, rfl⟩
      obtain ⟨ct, hct⟩ : ∃ A, A = Rn.com X t := ⟨_, rfl⟩
      rw [← hcs] at KS HE
      rw [← hct] at KT HE
      clear hcs hct hms
      go_upto_region 8 with fail
      go_cut [31] from 17 to 31 (fun q wx => q = .bool (decide (s = t) || !cs || !ct) ∧ Hid (ReAt w wx v L))
      case first =>
        by_cases hst : s = t
        · have hB : ((s : Int) == (t : Int)) = true := by simp; omega
          have hD : decide (s = t) = true := decide_eq_true hst
          clear hst
          go_wp2_with fail
          go_meet
          exact ⟨by rw [hD]; rfl, hA⟩
        have hB : ((s : Int) == (t : Int)) = false := by simp; omega
        have hB2 : (s == t) = false := by simpa using hst
        have hD : decide (s = t) = false := decide_eq_false hst
        clear hst
        go_wp2_with fail
        refine (KS.out _ (H.out.below hA.out.bel)).mono ?_
        rintro r w2 ⟨rfl, hb2⟩
        have A2 : Hid (ReAt w w2 v L) := hA.out.below hb2
        clear hb2
        rcases Bool.eq_false_or_eq_true cs with hcs | hcs
        rotate_left
        · go_wp2_with fail
          go_meet
          exact ⟨by rw [hD, hcs]; rfl, A2⟩
        · go_wp2_with fail
          refine (KT.out _ (H.out.below A2.out.bel)).mono ?_
          rintro r w3 ⟨rfl, hb3⟩
          have A3 : Hid (ReAt w w3 v L) := A2.out.below hb3
          clear hb3 A2
          rcases Bool.eq_false_or_eq_true ct with hct | hct
          · go_wp2_with fail
            go_meet
            exact ⟨by rw [hD, hcs, hct]; rfl, A3⟩
          · go_wp2_with fail
            go_meet
            exact ⟨by rw [hD, hcs, hct]; rfl, A3⟩
      case rest =>
        obtain ⟨rfl, hA2⟩ := hcut
        clear hA KS KT
        obtain ⟨B, hB⟩ : ∃ B, B = (decide (s = t) || !cs || !ct) := ⟨_, rfl⟩
        rw [← hB]
        have e1 : Hid (B = true → Rn.edgesTo X s (t + 1) = L) := fun h => by
          refine HS.out ?_
          rw [h] at hB
          by_cases hst : s = t
          · exact HSelf.out hst
          · rw [HE.out]
            rw [decide_eq_false hst] at hB
            rcases Bool.eq_false_or_eq_true cs with h1 | h1
            · rcases Bool.eq_false_or_eq_true ct with h2 | h2
              · rw [h1, h2] at hB; exact absurd hB (by decide)
              · rw [h2, Bool.and_false]
            · rw [h1, Bool.and_false, Bool.false_and]
        have e2 : Hid (B = false → Rn.edge X s t = Rn.ahead X s t) := fun h => by
          rw [h] at hB
          rw [HE.out]
          rcases Bool.eq_false_or_eq_true cs with h1 | h1
          · rcases Bool.eq_false_or_eq_true ct with h2 | h2
            · rw [h1, h2, Bool.and_true, Bool.and_true]
            · rw [h2, Bool.not_false, Bool.or_true] at hB; cases hB
          · rw [h1, Bool.not_false, Bool.or_true, Bool.true_or] at hB; cases hB
        clear hB HSelf HE HS
        cases B with
        | true =>
          have HF := hid (e1.out rfl)
          clear e1 e2 HN
          go_wp2_with fail
          go_roundw
          case rel => first
            | exact ⟨t + 1, v, by omega, rfl, by go_num, by rw [HF.out]; exact hA2⟩
            | ((repeat apply Exists.intro); exact ⟨⟨t + 1, v, by omega, rfl, by go_num, by rw [HF.out]; exact hA2⟩, rfl⟩)
          case measure => simp [intOf]; omega
        | false =>
          have HG := hid (e2.out rfl)
          clear e1 e2
          go_wp2_with fail
          go_loopw [6, 7, 8, 10, 34] (fun q _ _ _ i wr => ∃ k : Nat, k ≤ X.length ∧ i = .int .i64 (k : Int) ∧ q = .bool (isTo X s t k 0) ∧ Hid (ReAt w wr v L)) (fun _ _ _ _ i _ => X.length - (intOf i).toNat)
          case atStart => exact ⟨0, Nat.zero_le _, rfl, by rw [isTo_start], hA2⟩
          case round =>
            clear hA2
            obtain ⟨k, hk, rfl, rfl, hA⟩ := hrel
            by_cases hlt : k < X.length
            rotate_left
            · obtain rfl : k = X.length := by omega
              have j3 : decide ((X.length : Int) < (X.length : Int)) = false := by simp
              rw [isTo_end]
              obtain ⟨D, hD⟩ : ∃ D, D = Rn.ahead X s t := ⟨_, rfl⟩
              rw [← hD] at HG ⊢
              clear hD
              cases D with
              | false =>
                have HF : Hid (Rn.edgesTo X s (t + 1) = L) := edge_skipL HG.out HL.out
                clear HN HG
                go_wp2_with fail
                go_roundw
                case rel => first
                  | exact ⟨t + 1, v, by omega, rfl, by go_num, by rw [HF.out]; exact hA⟩
                  | ((repeat apply Exists.intro); exact ⟨⟨t + 1, v, by omega, rfl, by go_num, by rw [HF.out]; exact hA⟩, rfl⟩)
                case measure => simp [intOf]; omega
              | true =>
                have HF : Hid (Rn.edgesTo X s (t + 1) = L ++ [⟨(s : Int), (t : Int)⟩]) := HN.out HG.out
                have A6 : ∀ o, Hid (ReAt w (wr.alloc o) v L) := fun o => hA.out.below (bx _ _)
                clear HN HG hA
                go_wp2_with (at_builtin; refine wpList_append_own _ rfl _ _ 65 rfl w.heap.size 79 i0 (.agg #[.int .i64 0, .int .i64 0]) 2 16 Try.underlying65 hi hz0 hz1 hz3 rfl (by decide) _ _ _ rfl (A6 _).out.out ⟨wr.heap.size, 0, none⟩ 1 1 (sc ⟨(s : Int), (t : Int)⟩) rfl rfl ?c1 ?c2 ?c3 ?c4 ?c5 ?_)
                case c1 =>
                  intro q u hu
                  rw [Addr.add_mid]
                  exact (cell_of_row _ _ _ _ _ _ (heap_alloc_new wr _)).trans (by simpa [sc] using hu)
                case c2 => exact sc_one _
                case c3 => unfold maxLen; omega
                case c4 => omega
                case c5 => exact (A6 _).out.bel.size
                intro v' w6 ho6 hg6 hnil6
                have A7 : Hid (ReAt w w6 v' (Rn.edgesTo X s (t + 1))) := by
                  rw [HF.out]
                  exact ⟨OwnPg.grows ho6, (A6 _).out.bel.grown hg6 (A6 _).out.bel.size (fun b hb => ((A6 (.cells #[.int .i64 (s : Int), .int .i64 (t : Int)] 79)).out.out.lt b hb).1)⟩
                clear ho6 hg6 hnil6 A6 HF
                go_wp2_with fail
                go_roundw
                case rel => first
                  | exact ⟨t + 1, v', by omega, rfl, by go_num, A7⟩
                  | ((repeat apply Exists.intro); exact ⟨⟨t + 1, v', by omega, rfl, by go_num, A7⟩, rfl⟩)
                case measure => simp [intOf]; omega
            obtain ⟨x, hx⟩ : ∃ x, X[k]? = some x := ⟨_, List.getElem?_eq_getElem hlt⟩
            obtain ⟨b, o, rfl, d1, d2, d3⟩ := (H.out.below hA.out.bel) k x hx
            have k0 : (0 : Int) ≤ (k : Int) := by omega
            have k1 : (k : Int) < (X.length : Int) := by omega
            have kc : (k : Int) + 1 ≤ (c : Int) := by omega
            have kl : (k : Int) + 1 ≤ (X.length : Int) := by omega
            have k01 : (0 : Int) ≤ (k : Int) + 1 := by omega
            have gx := Rn.good_at HC.out hx
            have HX := hid hx
            have GX := hid gx
            clear hx gx
            obtain ⟨ox, ok, oi⟩ := x
            simp only at d1 d2 d3
            obtain ⟨wj, hwj⟩ : ∃ wj, wj = wr := ⟨_, rfl⟩
            rw [← hwj] at d1 d2 d3 hA ⊢
            clear hwj
            obtain ⟨M, hM⟩ : ∃ M, M = wj.heap.size := ⟨_, rfl⟩
            have A0 : ∀ T, Hid (ArrAt (wj.alloc (.cells #[.int .i64 ox, .int .i64 ok, .int .i64 oi] T)) M #[.int .i64 ox, .int .i64 ok, .int .i64 oi] ∧ ReAt w (wj.alloc (.cells #[.int .i64 ox, .int .i64 ok, .int .i64 oi] T)) v L) := fun T => ⟨by rw [hM]; exact ArrAt.new wj _ T, hA.out.below (bx _ _)⟩
            obtain ⟨I0, hI0⟩ : ∃ I, I = isTo X s t k 0 := ⟨_, rfl⟩
            rw [← hI0]
            obtain ⟨n, hn⟩ : ∃ n, n = X.length - (k + 1) := ⟨_, rfl⟩
            have hn1 : k + 1 + n ≤ X.length := by omega
            have hn2 : X.length ≤ k + 1 + n := by omega
            obtain ⟨W0, hW0⟩ : ∃ W0, W0 = wj.alloc (.cells #[.int .i64 ox, .int .i64 ok, .int .i64 oi] 114) := ⟨_, rfl⟩
            have A0 : Hid (ArrAt W0 M #[.int .i64 ox, .int .i64 ok, .int .i64 oi] ∧ ReAt w W0 v L) := by rw [hW0]; exact A0 _
            go_upto_region 13 with fail
            rw [← hM, ← hW0]
            clear hW0 hM hA d1 d2 d3
            go_cut [42, 43, 44] from 39 to 44 (fun l m i wx => ∃ A cc, l = .slice A n cc ∧ m = .int .i64 (n : Int) ∧ i = .int .i64 0 ∧ Hid (OpAt w A (X.drop (k + 1))) ∧ wx = W0)
            case first =>
              have hsub : Hid (OpAt w (some ⟨b, o + (k + 1) * 3, none⟩) (X.drop (k + 1))) := fun q z hz => by
                rw [List.getElem?_drop] at hz
                obtain ⟨b', o', e, g1, g2, g3⟩ := H.out _ z hz
                injection e with e
                injection e with q1 q2
                subst q1; subst q2
                exact ⟨b, o + (k + 1) * 3, rfl, by rw [show o + (k + 1) * 3 + q * 3 = o + (k + 1 + q) * 3 by omega]; exact g1, by rw [show o + (k + 1) * 3 + q * 3 + 1 = o + (k + 1 + q) * 3 + 1 by omega]; exact g2, by rw [show o + (k + 1) * 3 + q * 3 + 2 = o + (k + 1 + q) * 3 + 2 by omega]; exact g3⟩
              by_cases hck : c = k + 1
              · have hnil : Hid (OpAt w (some ⟨b, o, none⟩) (X.drop (k + 1))) := by
                  show OpAt _ _ _
                  rw [List.drop_eq_nil_of_le (by omega)]; exact OpAt.nil _ _
                go_wp2_with fail
                go_meet
                exact ⟨_, _, by rw [hn], by rw [hn], rfl, hnil, rfl⟩
              · go_wp2_with fail
                go_meet
                exact ⟨_, _, by rw [hn], by rw [hn], rfl, hsub, rfl⟩
            case rest =>
              obtain ⟨A, cc, rfl, rfl, rfl, PA, rfl⟩ := hcut
              clear hn
              go_wp2_with fail
              go_loopw [6, 10, 44] (fun q _ i wr => ∃ j : Nat, j ≤ n ∧ i = .int .i64 (j : Int) ∧ q = .bool (isTo X s t k j) ∧ Hid (ArrAt wr M #[.int .i64 ox, .int .i64 ok, .int .i64 oi] ∧ ReAt w wr v L)) (fun _ _ i _ => n - (intOf i).toNat)
              case atStart => exact ⟨0, Nat.zero_le _, rfl, by rw [hI0], A0⟩
              case round =>
                clear A0
                obtain ⟨j, hj, rfl, rfl, hA⟩ := hrel
                by_cases hjn : j < n
                · obtain ⟨y, hy⟩ : ∃ y, X[k + 1 + j]? = some y := ⟨_, List.getElem?_eq_getElem (by omega)⟩
                  obtain ⟨b', o', rfl, d1, d2, d3⟩ := (PA.out.below hA.out.2.bel) j y (by rw [List.getElem?_drop]; exact hy)
                  have j0 : (0 : Int) ≤ (j : Int) := by omega
                  have j1 : (j : Int) < (n : Int) := by omega
                  have gy := Rn.good_at HC.out hy
                  have KC := hid fun W => KC.out W ⟨ox, ok, oi⟩ y GX.out gy
                  have HNx := hid (isTo_next (s := s) (t := t) HX.out hy)
                  clear hy gy
                  obtain ⟨yx, yk, yi⟩ := y
                  simp only at d1 d2 d3 HNx KC
                  obtain ⟨I, hI⟩ : ∃ I, I = isTo X s t k j := ⟨_, rfl⟩
                  obtain ⟨cl, hcl⟩ : ∃ I, I = Rn.clash ⟨ox, ok, oi⟩ ⟨yx, yk, yi⟩ := ⟨_, rfl⟩
                  rw [← hI] at HNx ⊢
                  rw [← hcl] at HNx KC
                  clear hI hcl
                  obtain ⟨W1, hW1⟩ : ∃ W1, W1 = wr.alloc (.cells #[.int .i64 yx, .int .i64 yk, .int .i64 yi] 114) := ⟨_, rfl⟩
                  have A1 : Hid (ArrAt W1 M #[.int .i64 ox, .int .i64 ok, .int .i64 oi] ∧ ArrAt W1 wr.heap.size #[.int .i64 yx, .int .i64 yk, .int .i64 yi] ∧ ReAt w W1 v L) := by rw [hW1]; exact ⟨hA.out.1.below (bx _ _), ArrAt.new wr _ _, hA.out.2.below (bx _ _)⟩
                  go_upto_region 16 with fail
                  rw [← hW1]
                  clear hW1 hA d1 d2 d3
                  have u0 := A1.out.1.cell (j := 0) (v := .int .i64 ox) rfl
                  have u1 := A1.out.1.cell (j := 1) (v := .int .i64 ok) rfl
                  have u2 := A1.out.1.cell (j := 2) (v := .int .i64 oi) rfl
                  have v0 := A1.out.2.1.cell (j := 0) (v := .int .i64 yx) rfl
                  have v1 := A1.out.2.1.cell (j := 1) (v := .int .i64 yk) rfl
                  have v2 := A1.out.2.1.cell (j := 2) (v := .int .i64 yi) rfl
                  cases I with
                  | true =>
                    have HQ : Hid (isTo X s t k (j + 1) = true) := by show _ = _; rw [HNx.out]; rfl
                    have hF := hid (And.intro A1.out.1 A1.out.2.2)
                    clear HNx A1
                    go_wp2_with fail
                    go_roundw
                    case rel => first
                      | exact ⟨j + 1, by omega, by go_num, by rw [HQ.out], hF⟩
                      | ((repeat apply Exists.intro); exact ⟨⟨j + 1, by omega, by go_num, by rw [HQ.out], hF⟩, rfl⟩)
                    case measure => simp [intOf]; omega
                  | false =>
                    by_cases c1 : ox = (s : Int)
                    rotate_left
                    · have c1B : (ox == (s : Int)) = false := by simpa using c1
                      have HQ : Hid (isTo X s t k (j + 1) = false) := by show _ = _; rw [HNx.out, decide_eq_false c1]; rfl
                      have hF := hid (And.intro A1.out.1 A1.out.2.2)
                      clear c1 HNx A1
                      go_wp2_with fail
                      go_roundw
                      case rel => first
                        | exact ⟨j + 1, by omega, by go_num, by rw [HQ.out], hF⟩
                        | ((repeat apply Exists.intro); exact ⟨⟨j + 1, by omega, by go_num, by rw [HQ.out], hF⟩, rfl⟩)
                      case measure => simp [intOf]; omega
                    by_cases c2 : yx = (t : Int)
                    rotate_left
                    · have c2B : (yx == (t : Int)) = false := by simpa using c2
                      have HQ : Hid (isTo X s t k (j + 1) = false) := by show _ = _; rw [HNx.out, decide_eq_false c2]; simp
                      have hF := hid (And.intro A1.out.1 A1.out.2.2)
                      subst c1
                      clear c2 HNx A1
                      go_wp2_with fail
                      go_roundw
                      case rel => first
                        | exact ⟨j + 1, by omega, by go_num, by rw [HQ.out], hF⟩
                        | ((repeat apply Exists.intro); exact ⟨⟨j + 1, by omega, by go_num, by rw [HQ.out], hF⟩, rfl⟩)
                      case measure => simp [intOf]; omega
                    have HQ : Hid (isTo X s t k (j + 1) = cl) := by show _ = _; rw [HNx.out, decide_eq_true c1, decide_eq_true c2]; simp
                    subst c1
                    subst c2
                    clear HNx
                    go_wp2_with fail
                    refine (KC.out _).mono ?_
                    rintro r w3 ⟨rfl, hb3⟩
                    have hF : Hid (ArrAt w3 M #[.int .i64 (s : Int), .int .i64 ok, .int .i64 oi] ∧ ReAt w w3 v L) := ⟨A1.out.1.below hb3, A1.out.2.2.below hb3⟩
                    clear hb3 u0 u1 u2 v0 v1 v2 A1
                    go_wp2_with fail
                    go_roundw
                    case rel => first
                      | exact ⟨j + 1, by omega, by go_num, by rw [HQ.out], hF⟩
                      | ((repeat apply Exists.intro); exact ⟨⟨j + 1, by omega, by go_num, by rw [HQ.out], hF⟩, rfl⟩)
                    case measure => simp [intOf]; omega
                · obtain rfl : j = n := by omega
                  have hR := isTo_round (X := X) (s := s) (t := t) (i := k) (k := j) (by omega)
                  rw [hR]
                  have j3 : decide ((j : Int) < (j : Int)) = false := by simp
                  clear hR
                  obtain ⟨I, hI⟩ : ∃ I, I = isTo X s t (k + 1) 0 := ⟨_, rfl⟩
                  rw [← hI]
                  have HI := hid hI
                  have hA4 := hid hA.out.2
                  clear hI hA
                  go_wp2_with fail
                  go_roundw
                  case rel => first
                    | exact ⟨k + 1, by omega, by go_num, by rw [HI.out], hA4⟩
                    | ((repeat apply Exists.intro); exact ⟨⟨k + 1, by omega, by go_num, by rw [HI.out], hA4⟩, rfl⟩)
                  case measure => simp [intOf]; omega
end Go.Proofs.Ytlhkkhojfndoiab.PRun
