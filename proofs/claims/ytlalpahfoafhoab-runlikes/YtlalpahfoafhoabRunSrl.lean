/- run.Serial, walked: it answers what the plain words say, and nothing that was there has turned. Conditions: the operations lie where their slice says; the capacity is no less than the length. -/
import Derived.Test.YtlalpahfoafhoabRunEdg
import Derived.Test.YtlalpahfoafhoabRunSer
import Derived.Test.YtlalpahfoafhoabGraphOrd
namespace Go.Proofs.Ytlalpahfoafhoab.PRun
open Go Go.RowKit PPool PGraph
set_option maxRecDepth 100000
attribute [local go_sem ↓] loadE_pre storeE_pre

def serE (X : List Rn.Op) : Int := if Rn.check X = 0 then (if (Gr.order (Rn.edges X) 12).isSome then 0 else 11) else Rn.check X
def serL (X : List Rn.Op) : List Nat := if Rn.check X = 0 then Rn.serial X else []
theorem ord_code (X : List Rn.Op) : Gr.ordCode 12 (Rn.edges X) = if (Gr.order (Rn.edges X) 12).isSome then 0 else 11 := by
  unfold Gr.ordCode; rw [if_pos (Rn.edges_ok X)]; rfl
theorem ord_list (X : List Rn.Op) : Gr.ordList 12 (Rn.edges X) = (Gr.order (Rn.edges X) 12).getD [] := by
  unfold Gr.ordList; rw [if_pos (Rn.edges_ok X)]; rfl
theorem nat_step {s : List Nat} {k t : Nat} (P : Nat → Bool) (hs : s[k]? = some t) : (s.take (k + 1)).filter P = if P t = true then (s.take k).filter P ++ [t] else (s.take k).filter P := by
  obtain ⟨h1, h2⟩ := List.getElem?_eq_some_iff.1 hs
  rw [List.take_succ_eq_append_getElem h1, h2, List.filter_append]
  cases h : P t with
  | true => simp [h]
  | false => simp [h]
/-- How all stands while the order is told. -/
structure SrAt (w W : World) (M : Nat) (X : List Rn.Op) (v : Value) (L : List Nat) : Prop where
  en : ArrAt W M (eA (Rn.ends X))
  out : OwnNats W (M + 1) v L
  bel : Below w.heap.size w W
  lo : w.heap.size ≤ M
theorem SrAt.below {w W W' : World} {M : Nat} {X : List Rn.Op} {v : Value} {L : List Nat} (h : SrAt w W M X v L) (hb : Below W.heap.size W W') : SrAt w W' M X v L := ⟨h.en.below hb, h.out.below hb, below_tr h.bel hb, h.lo⟩
theorem SrAt.grown {w W W' : World} {M : Nat} {X : List Rn.Op} {v v' : Value} {L L' : List Nat} (h : SrAt w W M X v L) (hg : W.grownBy W' v.ownBlock) (ho : OwnNats W' (M + 1) v' L') : SrAt w W' M X v' L' := by
  have hlo : ∀ b, v.ownBlock = some b → M + 1 ≤ b := fun b hb => (h.out.lt b hb).1
  have hw := h.lo
  have keep : ∀ b, b < W.heap.size → b ≤ M → W'.heap[b]? = W.heap[b]? := fun b hb hn => hg.block b hb (fun e => by have := hlo b e.symm; omega)
  exact ⟨h.en.keep (keep _ (ArrAt.lt h.en) (Nat.le_refl _)), ho, h.bel.grown hg h.bel.size (fun b hb => by have := hlo b hb; omega), h.lo⟩

set_option maxHeartbeats 4000000 in
theorem serial_any (w : World) (a : Option Addr) (c : Nat) (X : List Rn.Op) (h : OpAt w a X) (hl : X.length ≤ 9223372036854775807) (hcap : X.length ≤ c) :
    Calls Try.prog 32 #[.slice a X.length c] w fun e w' => ∃ v, e = .returned (.tuple #[v, .int .i64 (serE X)]) ∧ OwnNats w' w.heap.size v (serL X) ∧ Below w.heap.size w w' := by
  have H := hid h
  have K1 := hid (edges_any w a c X h hl hcap)
  by_cases hv : Rn.check X = 0
  rotate_left
  · have e1 : serE X = Rn.check X := by unfold serE; rw [if_neg hv]
    have e2 : serL X = [] := by unfold serL; rw [if_neg hv]
    rw [e1, e2]
    generalize Rn.check X = v at *
    have hv0 : (v != 0) = true := by simpa using hv
    clear hv e1 e2 h
    go_enter Try.func32, Try.ntmps32
    go_wp2_with fail
    refine (K1.out).mono ?_
    rintro r w1 ⟨v1, rfl, ho, hb1⟩
    clear ho
    go_wp2_with fail
    go_ret2
    exact ⟨_, rfl, OwnR.nil _ _, hb1⟩
  have e0 : edgesOf X = Rn.edges X := by unfold edgesOf; rw [if_pos hv]
  rw [e0, hv] at K1
  have hel : (Rn.edges X).length ≤ 156 := Rn.edgesTo_len X 12 0 (by omega) (by omega)
  have KO := hid fun W b d h => order_any W 12 b d (Rn.edges X) h (by omega)
  have hoc := ord_code X
  have hol := ord_list X
  have e1 : serE X = if (Gr.order (Rn.edges X) 12).isSome then 0 else 11 := by unfold serE; rw [if_pos hv]
  have e2 : serL X = ((Gr.order (Rn.edges X) 12).getD []).filter (Rn.com X) := by unfold serL; rw [if_pos hv]; rfl
  rw [e1, e2]
  have gX : ∀ o ∈ X, 0 ≤ o.x ∧ o.x < 12 := fun o ho => ⟨(Rn.good_mem hv ho).x0, (Rn.good_mem hv ho).x1⟩
  have KE := hid fun W h => endsOf_any W a c X h hl gX
  have KM := hid fun W t ht => committed_any W (Rn.ends X) t ht
  have hz := (zero_of_info ends_info).1
  obtain ⟨i0, hi, hz0, hz1, hz3⟩ := info_parts int_info3
  obtain ⟨E, hE⟩ : ∃ E, E = Rn.edges X := ⟨_, rfl⟩
  rw [← hE] at K1 KO hoc hol hel ⊢
  have HOs : Hid (∀ L, Gr.order E 12 = some L → (∀ t ∈ L, t < 12) ∧ L.length = 12) := fun L hL => ⟨(Gr.order_some hL).1.lt, (Gr.order_some hL).2⟩
  obtain ⟨O, hO⟩ : ∃ O, O = Gr.order E 12 := ⟨_, rfl⟩
  rw [← hO] at hoc hol HOs ⊢
  have KO := hid (show ∀ W b d h, _ from KO.out)
  rw [hoc, hol] at KO
  clear hv e0 e1 e2 gX h hoc hol hE hO
  go_enter Try.func32, Try.ntmps32
  go_wp2_with fail
  refine (K1.out).mono ?_
  rintro r w1 ⟨v1, rfl, ho1, hb1⟩
  obtain ⟨a1, c1, rfl, hp1, -⟩ := ho1.at_
  have B1 := hid hb1
  have P1 := hid hp1
  clear ho1 hb1 hp1 K1
  go_wp2_with fail
  refine (KO.out _ a1 c1 P1.out).mono ?_
  rintro r w2 ⟨v2, rfl, ho2, hb2⟩
  have B2 : Hid (Below w.heap.size w w2) := below_tr B1.out hb2
  clear hb2 B1 P1 KO
  cases O with
  | none =>
    clear ho2
    go_wp2_with fail
    go_ret2
    exact ⟨_, rfl, OwnR.nil _ _, B2.out⟩
  | some L =>
    obtain ⟨hL1, hL2⟩ := HOs.out L rfl
    obtain ⟨a2, c2, rfl, hp2, -⟩ := ho2.at_
    have P2 : Hid (NatsAt w2 a2 L) := hp2
    have HLt := hid hL1
    simp only [Option.getD_some] at *
    clear ho2 hp2 HOs hL1
    go_wp2_with fail
    refine (KE.out _ (H.out.below B2.out)).mono ?_
    rintro r w3 ⟨rfl, hb3⟩
    obtain ⟨M, hM⟩ : ∃ M, M = w3.heap.size := ⟨_, rfl⟩
    have st2 : ∀ T : TypeId, (storeE (.pointer (some ⟨w3.heap.size, 0, none⟩)) (.agg (eA (Rn.ends X)))).run Try.prog (w3.alloc (.cells (eA fun _ => 0) T)) = .ok () (w3.alloc (.cells (eA (Rn.ends X)) T)) := fun T => by
      have e := World.setRow_alloc_new w3 (eA fun _ => 0) (eA (Rn.ends X)) T
      rw [← e]
      exact run_storeE (ArrAt.new w3 _ T)
    have A0 : ∀ T, Hid (SrAt w2 (w3.alloc (.cells (eA (Rn.ends X)) T)) M X (.slice none 0 0) ((L.take 0).filter (Rn.com X))) := fun T => by
      refine ⟨?_, OwnR.nil _ _, below_tr hb3 (bx _ _), ?_⟩
      · rw [hM]; exact ArrAt.new w3 _ T
      · have := hb3.size; omega
    clear hb3
    go_wp2_with fail
    rw [← hM]
    clear st2 hM
    go_loopw [8, 10, 31] (fun v _ i wr => ∃ (k : Nat) (V : Value), k ≤ L.length ∧ V = v ∧ i = .int .i64 (k : Int) ∧ Hid (SrAt w2 wr M X V ((L.take k).filter (Rn.com X)))) (fun _ _ i _ => L.length - (intOf i).toNat)
    case atStart => exact ⟨0, _, Nat.zero_le _, rfl, rfl, A0 _⟩
    case round =>
      clear A0
      obtain ⟨k, v, hk, rfl, rfl, hA⟩ := hrel
      by_cases hlt : k < L.length
      · obtain ⟨t, ht⟩ : ∃ t, L[k]? = some t := ⟨_, List.getElem?_eq_getElem hlt⟩
        obtain ⟨b', o', rfl, d1⟩ := (P2.out.below hA.out.bel) k t ht
        have t12 := HLt.out t (List.mem_of_getElem? ht)
        have k0 : (0 : Int) ≤ (k : Int) := by omega
        have k1 : (k : Int) < (L.length : Int) := by omega
        have HS := hid (nat_step (Rn.com X) ht)
        have hlen : ((L.take k).filter (Rn.com X)).length ≤ 12 := by
          have := List.length_filter_le (Rn.com X) (L.take k)
          rw [List.length_take] at this
          omega
        have KI := hid fun W => KM.out W t t12
        obtain ⟨ci, hci⟩ : ∃ A, A = decide (Rn.ends X t = 3) := ⟨_, rfl⟩
        have hcm : Rn.com X t = ci := hci.symm
        rw [← hci] at KI
        rw [hcm] at HS
        obtain ⟨Y, hY⟩ : ∃ Y, Y = (L.take k).filter (Rn.com X) := ⟨_, rfl⟩
        rw [← hY] at hA HS hlen
        clear hci hcm ht hY
        have l6 := run_loadE hA.out.en
        go_wp2_with fail
        refine (KI.out _).mono ?_
        rintro r w4 ⟨rfl, hb4⟩
        have A4 : Hid (SrAt w2 w4 M X v Y) := hA.out.below hb4
        clear hA hb4 l6 d1
        cases ci with
        | false =>
          have HF : Hid ((L.take (k + 1)).filter (Rn.com X) = Y) := by show _ = _; rw [HS.out, if_neg (by simp)]
          clear HS
          go_wp2_with fail
          go_roundw
          case rel => exact ⟨k + 1, v, by omega, rfl, by go_num, by rw [HF.out]; exact A4⟩
          case measure => simp [intOf]; omega
        | true =>
          have HF : Hid ((L.take (k + 1)).filter (Rn.com X) = Y ++ [t]) := by show _ = _; rw [HS.out, if_pos rfl]
          have A6 : ∀ o, Hid (SrAt w2 (w4.alloc o) M X v Y) := fun o => A4.out.below (bx _ _)
          clear HS A4
          go_wp2_with (at_builtin; refine wpList_append_own _ rfl _ _ 47 rfl (M + 1) 3 i0 (.int .i64 0) 1 8 Try.underlying47 hi hz0 hz1 hz3 rfl (by decide) _ _ _ rfl (A6 _).out.out ⟨w4.heap.size, 0, none⟩ 1 1 [nc t] rfl rfl ?c1 ?c2 ?c3 ?c4 ?c5 ?_)
          case c1 =>
            intro q u hu
            rw [Addr.add_mid]
            exact (cell_of_row _ _ _ _ _ _ (heap_alloc_new w4 _)).trans (by simpa using hu)
          case c2 => exact nats_one [t]
          case c3 => unfold maxLen; omega
          case c4 => omega
          case c5 =>
            exact ArrAt.lt (A6 _).out.en
          intro v' w6 ho6 hg6 hnil6
          have A7 : Hid (SrAt w2 w6 M X v' ((L.take (k + 1)).filter (Rn.com X))) := by
            rw [HF.out]; exact (A6 _).out.grown hg6 (OwnR.grows ho6)
          clear ho6 hg6 hnil6 A6 HF
          go_wp2_with fail
          go_roundw
          case rel => exact ⟨k + 1, v', by omega, rfl, by go_num, A7⟩
          case measure => simp [intOf]; omega
      · obtain rfl : k = L.length := by omega
        have hO : Hid (OwnNats wr w.heap.size v (L.filter (Rn.com X))) := by
          have := hA.out.out.lower (base' := w.heap.size) (by have := hA.out.lo; have := B2.out.size; omega)
          rwa [List.take_length] at this
        have hB := hid (below_tr B2.out hA.out.bel)
        have j3 : decide ((L.length : Int) < (L.length : Int)) = false := by simp
        clear hA
        go_wp2_with fail
        go_ret2
        exact ⟨_, rfl, hO.out, hB.out⟩
end Go.Proofs.Ytlalpahfoafhoab.PRun
