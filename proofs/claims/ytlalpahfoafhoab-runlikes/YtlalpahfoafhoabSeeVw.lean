/- see.viewOf, walked: it answers the view that the plain words tell, and nothing that was there has turned. Conditions: the operations lie where their slice says; the capacity is no less than the length. -/
import Derived.Test.YtlalpahfoafhoabSeeRds
import Derived.Test.YtlalpahfoafhoabSeeNam
import Derived.Test.YtlalpahfoafhoabSeeEq
import Derived.Deep.RegionHeld3
namespace Go.Proofs.Ytlalpahfoafhoab.PSee
open Go Go.RowKit PPool PGraph PRun
set_option maxRecDepth 100000

theorem small_nm {X : List Rn.Op} (hv : Rn.check X = 0) {p : Nat} (hp : p < X.length) : Small (Se.nm X p) := by
  obtain ⟨o, ho⟩ : ∃ o, X[p]? = some o := ⟨_, List.getElem?_eq_getElem hp⟩
  have g := Rn.good_at hv ho
  have l := (Rn.check_zero hv).1
  have hr : Rn.rank X p o.x.toNat ≤ p := by unfold Rn.rank Rn.own; exact Nat.le_trans (List.length_filter_le _ _) (by rw [List.length_take]; omega)
  rw [Se.nm_some ho]
  have := g.x0; have := g.x1
  exact ⟨by show -1 ≤ o.x; omega, g.x1, by show (0 : Int) ≤ (Rn.rank X p o.x.toNat : Nat); omega, by show ((Rn.rank X p o.x.toNat : Nat) : Int) ≤ 200; omega⟩
theorem small_none : Small ⟨-1, 0⟩ := ⟨by decide, by decide, by decide, by decide⟩
theorem small_nmO {X : List Rn.Op} (hv : Rn.check X = 0) {v : Option Nat} (h : ∀ q, v = some q → q < X.length) : Small (Se.nmO X v) := by
  cases v with
  | none => exact small_none
  | some q => exact small_nm hv (h q rfl)
theorem lst_lt {X : List Rn.Op} {i q : Nat} (h : Se.lst X i = some q) : q < X.length := Se.wrI_lt h
theorem small_lst {X : List Rn.Op} (hv : Rn.check X = 0) (i : Nat) : Small (Se.lstM X i) := small_nmO hv fun _ h => lst_lt h
/-- The k-th Read. -/
theorem read_at {X : List Rn.Op} {k : Nat} (hk : k < (Se.rds X X.length).length) :
    ∃ (p : Nat) (v : Option Nat), (Se.seen X X.length)[k]? = some ⟨(p : Int), wrN v⟩ ∧ (Se.fmap X X.length)[k]? = some (Se.nm X p, Se.nmO X v) ∧ p < X.length ∧ ∀ q, v = some q → q < X.length := by
  obtain ⟨p, hp⟩ : ∃ p, (Se.rds X X.length)[k]? = some p := ⟨_, List.getElem?_eq_getElem hk⟩
  have hm := (Se.rds_mem.1 (List.mem_of_getElem? hp)).1
  refine ⟨p, Se.frm X p, ?_, ?_, hm, fun q hq => ?_⟩
  · unfold Se.seen; rw [List.getElem?_map, hp]; rfl
  · unfold Se.fmap; rw [List.getElem?_map, hp]; rfl
  · unfold Se.frm at hq
    split at hq
    · have := Se.wrI_lt hq; omega
    · cases hq
theorem take_more {α : Type} {l : List α} {k : Nat} {x : α} (h : l[k]? = some x) : l.take (k + 1) = l.take k ++ [x] := by
  obtain ⟨h1, h2⟩ := List.getElem?_eq_some_iff.1 h
  rw [List.take_succ_eq_append_getElem h1, h2]
theorem key_new {L : List (Gr.Ed × Gr.Ed)} (hn : (L.map Prod.fst).Nodup) {k : Nat} {e d : Gr.Ed} (h : L[k]? = some (e, d)) : e ∉ (L.take k).map Prod.fst := by
  intro hm
  obtain ⟨⟨e', u⟩, hu, rfl⟩ := List.mem_map.1 hm
  obtain ⟨j, hj⟩ := List.getElem?_of_mem hu
  obtain ⟨hj1, _⟩ := List.getElem?_eq_some_iff.1 hj
  rw [List.length_take] at hj1
  rw [List.getElem?_take, if_pos (by omega)] at hj
  have h1 : (L.map Prod.fst)[j]? = some e' := by rw [List.getElem?_map, hj]; rfl
  have h2 : (L.map Prod.fst)[k]? = some e' := by rw [List.getElem?_map, h]; rfl
  obtain ⟨a1, a2⟩ := List.getElem?_eq_some_iff.1 h1
  obtain ⟨b1, b2⟩ := List.getElem?_eq_some_iff.1 h2
  have := (List.pairwise_iff_getElem.1 hn) j k a1 b1 (by omega)
  exact this (a2.trans b2.symm)
attribute [local go_sem ↓] loadI_pre storeI_pre loadV_pre storeV_pre
def z0 : Nat → Gr.Ed := fun _ => ⟨0, 0⟩

set_option maxHeartbeats 4000000 in
theorem view_bad (w : World) (a : Option Addr) (c : Nat) (X : List Rn.Op) (h : OpAt w a X) (hl : X.length ≤ 9223372036854775807) (hcap : X.length ≤ c) (hv : Rn.check X ≠ 0) :
    Calls Try.prog 90 #[.slice a X.length c] w fun e w' => e = .returned (.tuple #[.agg (vA (.map none) z0), .int .i64 (Rn.check X)]) ∧ Below w.heap.size w w' := by
  have H := hid h
  have K1 := hid fun W h => reads_any W a c X h hl hcap
  have hz : ∀ w, (zeroValue 154).run Try.prog w = .ok (.agg (vA (.map none) z0)) w := (zero_of_info view_info).1
  obtain ⟨Z, hZ⟩ : ∃ Z, Z = vA (.map none) z0 := ⟨_, rfl⟩
  rw [← hZ] at hz ⊢
  generalize Rn.check X = v at *
  have hv0 : (v != 0) = true := by simpa using hv
  have st : ∀ w1, ArrAt w1 w.heap.size Z → (storeV (.pointer (some ⟨w.heap.size, 0, none⟩)) (.agg Z)).run Try.prog w1 = .ok () (w1.setRow w.heap.size Z) := fun w1 h1 => by rw [hZ] at h1 ⊢; exact run_storeV h1
  have hs : Z.size = 41 := by rw [hZ]; exact vA_size _ _
  clear hv h hZ
  go_enter Try.func90, Try.ntmps90
  go_wp2_with fail
  refine (K1.out _ (H.out.below (bx _ _))).mono ?_
  rintro r w1 ⟨u, rfl, -, hb1⟩
  have A1 : Hid (ArrAt w1 w.heap.size Z ∧ Below w.heap.size w w1) := ⟨(ArrAt.new w Z _).below hb1, below_tr (bx _ _) hb1⟩
  have s1 := st w1 A1.out.1
  have F : Hid (ArrAt (w1.setRow w.heap.size Z) w.heap.size Z ∧ Below w.heap.size w (w1.setRow w.heap.size Z)) := ⟨A1.out.1.row _, Below.row A1.out.2 (Nat.le_refl _) _⟩
  clear hb1 K1 A1 st
  go_wp2_with fail
  exact bodyPost_ret (ArrAt.result2 F.out.1 rfl rfl Try.underlying154 rfl (by rw [hs]; exact (zero_of_info view_info).2) rfl) rfl ⟨rfl, F.out.2⟩

/-- How all stands while the view is made. -/
structure VwAt (w W : World) (lb B V : Nat) (ar an : Option Addr) (X : List Rn.Op) (k : Nat) (g : Nat → Gr.Ed) : Prop where
  res : ArrAt W w.heap.size (vA (.map none) z0)
  lst : ArrAt W lb (iA (Se.lstN X))
  rds : PgAt W ar (Se.seen X X.length)
  nms : PgAt W an (nms X)
  map : MpAt W B ((Se.fmap X X.length).take k)
  view : ArrAt W V (vA (.map (some B)) g)
  bel : Below w.heap.size w W
  lo : w.heap.size < lb ∧ lb < B ∧ B < V
  alo : ∀ q, ar = some q → q.block < B
  anl : ∀ q, an = some q → q.block < B
theorem VwAt.below {w W W' : World} {lb B V : Nat} {ar an : Option Addr} {X : List Rn.Op} {k : Nat} {g : Nat → Gr.Ed} (h : VwAt w W lb B V ar an X k g) (hb : Below W.heap.size W W') : VwAt w W' lb B V ar an X k g :=
  ⟨h.res.below hb, h.lst.below hb, h.rds.below hb, h.nms.below hb, h.map.below hb, h.view.below hb, below_tr h.bel hb, h.lo, h.alo, h.anl⟩
theorem VwAt.drew {w W : World} {lb B V : Nat} {ar an : Option Addr} {X : List Rn.Op} {k : Nat} {g : Nat → Gr.Ed} (h : VwAt w W lb B V ar an X k g) : VwAt w W.drew lb B V ar an X k g := h.below (Below.refl _ _).drew
/-- The store of the next Read. -/
theorem VwAt.put {w W : World} {lb B V : Nat} {ar an : Option Addr} {X : List Rn.Op} {k : Nat} {g : Nat → Gr.Ed} (h : VwAt w W lb B V ar an X k g) (hv : Rn.check X = 0) {e d : Gr.Ed} (hk : (Se.fmap X X.length)[k]? = some (e, d)) (he : Small e) :
    ∃ W', (Instr.mapUpdate 149 (.map (some B)) (nv e) (nv d)).run Try.prog W = .ok () W' ∧ VwAt w W' lb B V ar an X (k + 1) g ∧ ∀ b A, b ≠ B → ArrAt W b A → ArrAt W' b A := by
  have l := (Rn.check_zero hv).1
  have hX : ∀ o ∈ X, 0 ≤ o.x := fun o ho => (Rn.good_mem hv ho).x0
  have hn := key_new (Se.fmap_keys hX (Nat.le_refl _)) hk
  have hlen : ((Se.fmap X X.length).take k).length ≤ 200 := by
    rw [List.length_take, Se.fmap_len]
    have := Se.rds_len X X.length
    omega
  obtain ⟨W', h1, h2, h3⟩ := h.map.put he hn hlen (d := d)
  have lo := h.lo
  have ne : ∀ {b : Nat}, b ≠ B → b < W.heap.size → W'.heap[b]? = W.heap[b]? := fun hb hs => h3.block _ hs (fun e => hb (by injection e))
  have pg : ∀ {p : Option Addr} {Y : List Gr.Ed}, PgAt W p Y → (∀ q, p = some q → q.block < B) → PgAt W' p Y := fun {p Y} hp hq => hp.keep fun q e => ne (by have := hq q e; omega) (by have := hq q e; have := h.view.lt; omega)
  refine ⟨W', h1, ⟨h.res.keep (ne (by omega) h.res.lt), h.lst.keep (ne (by omega) h.lst.lt), pg h.rds h.alo, pg h.nms h.anl, by rw [take_more hk]; exact h2, h.view.keep (ne (by omega) h.view.lt), h.bel.grown h3 h.bel.size (fun b hb => by injection hb with hb; omega), lo, h.alo, h.anl⟩, fun b A hb hA => hA.keep (ne hb hA.lt)⟩
/-- The store of an item's last write. -/
theorem VwAt.lay {w W : World} {lb B V : Nat} {ar an : Option Addr} {X : List Rn.Op} {k : Nat} {g : Nat → Gr.Ed} (h : VwAt w W lb B V ar an X k g) {i : Nat} (hi : i < 20) (e : Gr.Ed) :
    VwAt w ((W.setCell ⟨V, 1 + i * 2, none⟩ (.int .i64 e.f)).setCell ⟨V, 1 + i * 2 + 1, none⟩ (.int .i64 e.t)) lb B V ar an X k (fun s => if s = i then e else g s) := by
  have lo := h.lo
  have ne : ∀ {b : Nat}, b ≠ V → ((W.setCell ⟨V, 1 + i * 2, none⟩ (.int .i64 e.f)).setCell ⟨V, 1 + i * 2 + 1, none⟩ (.int .i64 e.t)).heap[b]? = W.heap[b]? := fun hb => by
    rw [Below.heap_setCell _ _ _ _ hb, Below.heap_setCell _ _ _ _ hb]
  have pg : ∀ {p : Option Addr} {Y : List Gr.Ed}, PgAt W p Y → (∀ q, p = some q → q.block < B) → PgAt _ p Y := fun {p Y} hp hq => hp.keep fun q e' => ne (by have := hq q e'; omega)
  exact ⟨h.res.keep (ne (by omega)), h.lst.keep (ne (by omega)), pg h.rds h.alo, pg h.nms h.anl, h.map.keep (ne (by omega)), by rw [← vA_set _ g hi e]; exact (h.view.put _ _).put _ _, Below.two h.bel (by omega) _ _ _ _, lo, h.alo, h.anl⟩
/-- The names of the first i items' last writes. -/
def upToN (f : Nat → Gr.Ed) (k : Nat) : Nat → Gr.Ed := fun s => if s < k then f s else ⟨0, 0⟩
theorem upToN_start (f : Nat → Gr.Ed) : upToN f 0 = z0 := by funext s; simp [upToN, z0]
theorem upToN_next (f : Nat → Gr.Ed) (k : Nat) : upToN f (k + 1) = fun s => if s = k then f k else upToN f k s := by
  funext s
  unfold upToN
  by_cases e : s = k
  · subst e; rw [if_pos (by omega), if_pos rfl]
  · rw [if_neg e]
    by_cases h : s < k
    · rw [if_pos h, if_pos (by omega)]
    · rw [if_neg h, if_neg (by omega)]
theorem upToN_all (m : Value) (f : Nat → Gr.Ed) : vA m (upToN f 20) = vA m f := by
  unfold vA
  rw [show nA (upToN f 20) = nA f from nA_congr fun i hi => by unfold upToN; rw [if_pos hi]]

set_option maxHeartbeats 8000000 in
theorem view_ok (w : World) (a : Option Addr) (c : Nat) (X : List Rn.Op) (h : OpAt w a X) (hcap : X.length ≤ c) (hv : Rn.check X = 0) :
    Calls Try.prog 90 #[.slice a X.length c] w fun e w' => ∃ B, e = .returned (.tuple #[.agg (vA (.map (some B)) (Se.lstM X)), .int .i64 0]) ∧ MpAt w' B (Se.fmap X X.length) ∧ Below w.heap.size w w' := by
  have H := hid h
  have lx := (Rn.check_zero hv).1
  have K1 := hid fun W h => reads_any W a c X h (by omega) hcap
  have K2 := hid fun W h => last_any W a c X h (by omega)
  have e1 : seenOf X = Se.seen X X.length := by unfold seenOf; rw [if_pos hv]
  have e2 : lastOf X = Se.lstN X := by unfold lastOf; rw [if_pos hv]
  rw [e1, hv] at K1
  rw [e2, hv] at K2
  have K3 := hid fun W h => names_any W a c X h hv
  have K4 := hid fun W b d v e hp he => nameAt_any W b d (nms X) v e hp he
  rw [nms_len] at K4
  have hz : ∀ w, (zeroValue 154).run Try.prog w = .ok (.agg (vA (.map none) z0)) w := (zero_of_info view_info).1
  have hzI := (zero_of_info twenty_info).1
  have HV := hid hv
  have hsl : (Se.seen X X.length).length ≤ 200 := by rw [Se.seen_len]; have := Se.rds_len X X.length; omega
  clear h hv e1 e2
  go_enter Try.func90, Try.ntmps90
  go_wp2_with fail
  refine (K1.out _ (H.out.below (bx _ _))).mono ?_
  rintro r w1 ⟨v1, rfl, ho1, hb1⟩
  obtain ⟨ar, cr, rfl, hp1, -⟩ := ho1.at_
  have B1 : Hid (ArrAt w1 w.heap.size (vA (.map none) z0) ∧ PgAt w1 ar (Se.seen X X.length) ∧ Below w.heap.size w w1 ∧ ∀ q, ar = some q → q.block < w1.heap.size) := ⟨(ArrAt.new w _ _).below hb1, hp1, below_tr (bx _ _) hb1, ho1.hi⟩
  clear hb1 K1 ho1 hp1
  go_wp2_with fail
  refine (K2.out _ (H.out.below B1.out.2.2.1)).mono ?_
  rintro r w2 ⟨rfl, hb2⟩
  have B2 : Hid (ArrAt w2 w.heap.size (vA (.map none) z0) ∧ PgAt w2 ar (Se.seen X X.length) ∧ Below w.heap.size w w2 ∧ ∀ q, ar = some q → q.block < w2.heap.size) := ⟨B1.out.1.below hb2, B1.out.2.1.below hb2, below_tr B1.out.2.2.1 hb2, fun q hq => Nat.lt_of_lt_of_le (B1.out.2.2.2 q hq) hb2.size⟩
  have st2 : ∀ T : TypeId, (storeI (.pointer (some ⟨w2.heap.size, 0, none⟩)) (.agg (iA (Se.lstN X)))).run Try.prog (w2.alloc (.cells (iA fun _ => 0) T)) = .ok () (w2.alloc (.cells (iA (Se.lstN X)) T)) := fun T => by
    have e := World.setRow_alloc_new w2 (iA fun _ => 0) (iA (Se.lstN X)) T
    rw [← e]
    exact run_storeI (ArrAt.new w2 _ T)
  clear hb2 K2 B1
  go_wp2_with fail
  obtain ⟨lb, hlb⟩ : ∃ lb, lb = w2.heap.size := ⟨_, rfl⟩
  refine (K3.out _ (H.out.below (below_tr B2.out.2.2.1 (bx _ _)))).mono ?_
  rintro r w3 ⟨v3, rfl, ho3, hb3⟩
  obtain ⟨an, cn, e3, hp3, -⟩ := ho3.at_
  rw [nms_len] at e3
  subst e3
  have B3 : Hid (ArrAt w3 w.heap.size (vA (.map none) z0) ∧ ArrAt w3 lb (iA (Se.lstN X)) ∧ PgAt w3 ar (Se.seen X X.length) ∧ PgAt w3 an (nms X) ∧ Below w.heap.size w w3 ∧ w.heap.size < lb ∧ (∀ q, ar = some q → q.block < w3.heap.size) ∧ ∀ q, an = some q → q.block < w3.heap.size) := by
    refine ⟨(B2.out.1.below (bx _ _)).below hb3, by rw [hlb]; exact (ArrAt.new w2 _ 90).below hb3, (B2.out.2.1.below (bx _ _)).below hb3, hp3, below_tr B2.out.2.2.1 (below_tr (bx _ _) hb3), by rw [hlb]; exact B2.out.1.lt, fun q hq => Nat.lt_of_lt_of_le (B2.out.2.2.2 q hq) (by have := hb3.size; simp at this; omega), ho3.hi⟩
  have hmk := fun W => run_makeMapN (Se.seen X X.length).length W
  clear hb3 K3 B2 ho3 hp3 st2
  rw [← hlb]
  clear hlb
  obtain ⟨B, hB⟩ : ∃ B, B = w3.heap.size := ⟨_, rfl⟩
  have st3 : ∀ T : TypeId, (storeV (.pointer (some ⟨w3.heap.size + 1, 0, none⟩)) (.agg ((vA (.map none) z0).setIfInBounds 0 (.map (some w3.heap.size))))).run Try.prog ((w3.alloc (.map #[] 0)).alloc (.cells (vA (.map none) z0) T)) = .ok () ((w3.alloc (.map #[] 0)).alloc (.cells (vA (.map (some w3.heap.size)) z0) T)) := fun T => by
    have e := World.setRow_alloc_new (w3.alloc (.map #[] 0)) (vA (.map none) z0) (vA (.map (some w3.heap.size)) z0) T
    rw [← e]
    have e3 : (w3.alloc (.map #[] 0)).heap.size = w3.heap.size + 1 := by simp
    have := run_storeV (m := some w3.heap.size) (g := z0) (ArrAt.new (w3.alloc (.map #[] 0)) (vA (.map none) z0) T)
    rw [e3] at this ⊢
    exact this
  have A0 : ∀ T, Hid (VwAt w ((w3.alloc (.map #[] 0)).alloc (.cells (vA (.map (some w3.heap.size)) z0) T)) lb B (B + 1) ar an X 0 z0) := fun T => by
    obtain ⟨b1, b2, b3, b4, b5, b6, b7, b8⟩ := B3.out
    have hbe := bx2 w3 (.map #[] 0) (.cells (vA (.map (some w3.heap.size)) z0) T)
    have e3 : (w3.alloc (.map #[] 0)).heap.size = w3.heap.size + 1 := by simp
    refine ⟨b1.below hbe, b2.below hbe, b3.below hbe, b4.below hbe, ?_, ?_, below_tr b5 hbe, ⟨b6, by rw [hB]; exact b2.lt, Nat.lt_succ_self _⟩, fun q hq => ?_, fun q hq => ?_⟩
    · rw [hB]; exact (MpAt.made w3).below (bx _ _)
    · rw [hB]
      have := ArrAt.new (w3.alloc (.map #[] 0)) (vA (.map (some w3.heap.size)) z0) T
      rwa [e3] at this
    · rw [hB]; exact b7 q hq
    · rw [hB]; exact b8 q hq
  clear B3
  go_wp2_with fail
  rw [← hB]
  rw [← hB] at A0
  clear hB st3 hmk h
  go_loopw [10, 39] (fun _ i wr => ∃ k : Nat, k ≤ (Se.seen X X.length).length ∧ i = .int .i64 (k : Int) ∧ Hid (VwAt w wr lb B (B + 1) ar an X k z0)) (fun _ i _ => (Se.seen X X.length).length - (intOf i).toNat)
  case atStart => exact ⟨0, Nat.zero_le _, rfl, A0 _⟩
  case round =>
    clear A0
    obtain ⟨k, hk, rfl, hA⟩ := hrel
    by_cases hlt : k < (Se.seen X X.length).length
    · have k0 : (0 : Int) ≤ (k : Int) := by omega
      have k1 : (k : Int) < ((Se.seen X X.length).length : Int) := by omega
      obtain ⟨p, v, r1, r2, r3, r4⟩ := read_at (X := X) (k := k) (by rw [← Se.seen_len]; exact hlt)
      have p0 : (0 : Int) ≤ (p : Int) := by omega
      have p1 : (p : Int) < (X.length : Int) := by omega
      have se := small_nm HV.out r3
      have hnv : (v = none ∧ Se.nmO X v = ⟨-1, 0⟩) ∨ ∃ q, v = some q ∧ (nms X)[q]? = some (Se.nmO X v) := by
        cases v with
        | none => exact .inl ⟨rfl, rfl⟩
        | some q => exact .inr ⟨q, rfl, nms_at (r4 q rfl)⟩
      have R2 := hid r2
      have hnp := nms_at r3
      obtain ⟨e, he⟩ : ∃ e, e = Se.nm X p := ⟨_, rfl⟩
      obtain ⟨d, hd⟩ : ∃ d, d = Se.nmO X v := ⟨_, rfl⟩
      rw [← he, ← hd] at R2
      rw [← he] at hnp se
      rw [← hd] at hnv
      obtain ⟨u, hu⟩ : ∃ u, u = wrN v := ⟨_, rfl⟩
      have KN := hid fun W b h => K4.out W b cn v d h hnv
      rw [← hu] at KN r1
      clear he hd hu r4 r2 hnv
      obtain ⟨b1, o1, rfl, d1, d2⟩ := hA.out.rds k _ r1
      obtain ⟨b2, o2, rfl, n1, n2⟩ := hA.out.nms p _ hnp
      obtain ⟨M, hM⟩ : ∃ M, M = wr.heap.size := ⟨_, rfl⟩
      obtain ⟨W0, hW0⟩ : ∃ W0, W0 = wr.alloc (.cells #[.int .i64 (p : Int), .int .i64 u] 95) := ⟨_, rfl⟩
      have A1 : Hid (ArrAt W0 M #[.int .i64 (p : Int), .int .i64 u] ∧ VwAt w W0 lb B (B + 1) (some ⟨b1, o1, none⟩) (some ⟨b2, o2, none⟩) X k z0) := by rw [hW0, hM]; exact ⟨ArrAt.new wr _ _, hA.out.below (bx _ _)⟩
      have hnp := hid hnp
      have cells : ∀ W (k' : Nat), ArrAt W M #[.int .i64 (p : Int), .int .i64 u] → VwAt w W lb B (B + 1) (some ⟨b1, o1, none⟩) (some ⟨b2, o2, none⟩) X k' z0 → W.cell? ⟨B + 1, 0, none⟩ = some (.map (some B)) ∧ W.cell? ⟨M, 0, none⟩ = some (.int .i64 (p : Int)) ∧ W.cell? ⟨M, 1, none⟩ = some (.int .i64 u) ∧ W.cell? ⟨b2, o2 + p * 2, none⟩ = some (.int .i64 e.f) ∧ W.cell? ⟨b2, o2 + p * 2 + 1, none⟩ = some (.int .i64 e.t) := fun W k' hM hW => by
        obtain ⟨b', o', ee, n3, n4⟩ := hW.nms p _ hnp.out
        injection ee with ee
        injection ee with ee1 ee2
        subst ee1; subst ee2
        exact ⟨hW.view.cell (vA_map _ _), hM.cell rfl, hM.cell rfl, n3, n4⟩
      have hMB : M ≠ B := by have := hA.out.map.lt; omega
      have SB : Hid (∀ W, Below W0.heap.size W0 W → W.cell? ⟨B + 1, 0, none⟩ = some (.map (some B)) ∧ W.cell? ⟨M, 0, none⟩ = some (.int .i64 (p : Int)) ∧ W.cell? ⟨M, 1, none⟩ = some (.int .i64 u) ∧ W.cell? ⟨b2, o2 + p * 2, none⟩ = some (.int .i64 e.f) ∧ W.cell? ⟨b2, o2 + p * 2 + 1, none⟩ = some (.int .i64 e.t)) := fun W hW => cells W k (A1.out.1.below hW) (A1.out.2.below hW)
      have PUT : Hid (∀ W, Below W0.heap.size W0 W → ∃ W5, (Instr.mapUpdate 149 (.map (some B)) (.agg #[.int .i64 e.f, .int .i64 e.t]) (.agg #[.int .i64 d.f, .int .i64 d.t])).run Try.prog W = .ok () W5 ∧ Hid (VwAt w W5 lb B (B + 1) (some ⟨b1, o1, none⟩) (some ⟨b2, o2, none⟩) X (k + 1) z0) ∧ W5.cell? ⟨B + 1, 0, none⟩ = some (.map (some B)) ∧ W5.cell? ⟨M, 0, none⟩ = some (.int .i64 (p : Int)) ∧ W5.cell? ⟨M, 1, none⟩ = some (.int .i64 u) ∧ W5.cell? ⟨b2, o2 + p * 2, none⟩ = some (.int .i64 e.f) ∧ W5.cell? ⟨b2, o2 + p * 2 + 1, none⟩ = some (.int .i64 e.t)) := fun W hW => by
        obtain ⟨W5, q1, q2, q3⟩ := (A1.out.2.below hW).put HV.out R2.out se
        exact ⟨W5, q1, q2, cells W5 (k + 1) (q3 M _ hMB (A1.out.1.below hW)) q2⟩
      clear cells hMB
      clear hA n1 n2 hnp R2 se
      go_upto_region 12 with fail
      rw [← hW0, ← hM]
      clear hW0 hM d1 d2
      go_region_held3 (fun W => W.cell? ⟨B + 1, 0, none⟩ = some (.map (some B)) ∧ W.cell? ⟨M, 0, none⟩ = some (.int .i64 (p : Int)) ∧ W.cell? ⟨M, 1, none⟩ = some (.int .i64 u) ∧ W.cell? ⟨b2, o2 + p * 2, none⟩ = some (.int .i64 e.f) ∧ W.cell? ⟨b2, o2 + p * 2 + 1, none⟩ = some (.int .i64 e.t))
        (first | exact S5.out | (refine SB.out _ ?_; first | exact B5.out | repeat (first | exact Below.refl _ _ | refine Below.drew ?_)))
        ((go_at_call 124; refine (KN.out _ _ A1.out.2.drew.nms).mono ?_; rintro r w4 ⟨rfl, hb4⟩; have B5 : Hid (Below W0.heap.size W0 w4) := below_tr (Below.refl _ _).drew hb4; obtain ⟨W5, q5, A5, S5⟩ := PUT.out w4 B5.out; have S5 := hid S5; clear hb4))
      clear S5 SB PUT A1 KN
      go_wp2_with fail
      go_roundw
      case rel => exact ⟨k + 1, by omega, by go_num, A5⟩
      case measure => simp [intOf]; omega
    · obtain rfl : k = (Se.seen X X.length).length := by omega
      have hmx : (Se.fmap X X.length).take (Se.seen X X.length).length = Se.fmap X X.length := List.take_of_length_le (by rw [Se.fmap_len, Se.seen_len]; exact Nat.le_refl _)
      have hA : Hid (VwAt w wr lb B (B + 1) ar an X (Se.seen X X.length).length (upToN (Se.lstM X) 0)) := by rw [upToN_start]; exact hA
      have hmx := hid hmx
      obtain ⟨n, hn⟩ : ∃ n, n = (Se.seen X X.length).length := ⟨_, rfl⟩
      rw [← hn] at hA hmx ⊢
      have hl1 := run_loadI hA.out.lst
      clear hn hlt hk hsl
      go_wp2_with fail
      clear hl1
      go_loopw [11, 12, 56] (fun _ _ i wr => ∃ k : Nat, k ≤ 20 ∧ i = .int .i64 (k : Int) ∧ Hid (VwAt w wr lb B (B + 1) ar an X n (upToN (Se.lstM X) k))) (fun _ _ i _ => 20 - (intOf i).toNat)
      case atStart => exact ⟨0, Nat.zero_le _, rfl, hA⟩
      case round =>
        clear hA
        obtain ⟨k, hk, rfl, hA⟩ := hrel
        by_cases hlt : k < 20
        · have k0 : (0 : Int) ≤ (k : Int) := by omega
          have k1 : (k : Int) < 20 := by omega
          have hix := run_index_iA wr (Se.lstN X) hlt
          have hnv : (Se.lst X k = none ∧ Se.lstM X k = ⟨-1, 0⟩) ∨ ∃ q, Se.lst X k = some q ∧ (nms X)[q]? = some (Se.lstM X k) := by
            unfold Se.lstM
            cases hq : Se.lst X k with
            | none => exact .inl ⟨rfl, rfl⟩
            | some q => exact .inr ⟨q, rfl, nms_at (lst_lt hq)⟩
          have HN := hid (upToN_next (Se.lstM X) k)
          have KN := hid fun W h => K4.out W an cn (Se.lst X k) (Se.lstM X k) h hnv
          obtain ⟨u, hu⟩ : ∃ u, u = Se.lstN X k := ⟨_, rfl⟩
          have KN : Hid (∀ (W : World), PgAt W an (nms X) → Calls Try.prog 124 #[.slice an X.length cn, .int .i64 u] W fun x w' => x = .returned (.agg #[.int .i64 (Se.lstM X k).f, .int .i64 (Se.lstM X k).t]) ∧ Below W.heap.size W w') := by rw [hu]; exact KN
          rw [← hu] at hix
          clear hu hnv
          obtain ⟨e, he⟩ : ∃ e, e = Se.lstM X k := ⟨_, rfl⟩
          rw [← he] at KN HN
          clear he
          obtain ⟨g, hg⟩ : ∃ g, g = upToN (Se.lstM X) k := ⟨_, rfl⟩
          rw [← hg] at hA HN
          clear hg
          go_wp2_with fail
          refine (KN.out _ hA.out.nms).mono ?_
          rintro r w4 ⟨rfl, hb4⟩
          have A4 : Hid (VwAt w w4 lb B (B + 1) ar an X n g) := hA.out.below hb4
          have A5 : Hid (VwAt w ((w4.setCell ⟨B + 1, 1 + k * 2, none⟩ (.int .i64 e.f)).setCell ⟨B + 1, 1 + k * 2 + 1, none⟩ (.int .i64 e.t)) lb B (B + 1) ar an X n (upToN (Se.lstM X) (k + 1))) := by rw [HN.out]; exact A4.out.lay hlt e
          obtain ⟨c1, c2⟩ := vA_at (.map (some B)) g hlt
          have s1 := A4.out.view.cell c1
          have s2 := A4.out.view.cell c2
          have s3 : ∀ i, w4.frozen? ⟨B + 1, i, none⟩ = false := fun i => A4.out.view.fz i
          clear hb4 hA HN A4 KN hix c1 c2
          go_wp2_with fail
          go_roundw
          case rel => exact ⟨k + 1, by omega, by go_num, A5⟩
          case measure => simp [intOf]; omega
        · obtain rfl : k = 20 := by omega
          have hlv := run_loadV hA.out.view
          have hsv := run_storeV (m := some B) (g := upToN (Se.lstM X) 20) hA.out.res
          have F : Hid (ArrAt (wr.setRow w.heap.size (vA (.map (some B)) (Se.lstM X))) w.heap.size (vA (.map (some B)) (Se.lstM X)) ∧ MpAt (wr.setRow w.heap.size (vA (.map (some B)) (Se.lstM X))) B (Se.fmap X X.length) ∧ Below w.heap.size w (wr.setRow w.heap.size (vA (.map (some B)) (Se.lstM X)))) := by
            refine ⟨hA.out.res.row _, ?_, Below.row hA.out.bel (Nat.le_refl _) _⟩
            have hm := hA.out.map
            rw [hmx.out] at hm
            exact hm.keep (setRow_other wr _ _ _ (by have := hA.out.lo; omega))
          rw [upToN_all] at hlv hsv
          clear hA
          go_wp2_with fail
          exact bodyPost_ret (ArrAt.result2 F.out.1 rfl rfl Try.underlying154 rfl (by rw [vA_size]; exact (zero_of_info view_info).2) rfl) rfl ⟨B, rfl, F.out.2.1, F.out.2.2⟩
end Go.Proofs.Ytlalpahfoafhoab.PSee
