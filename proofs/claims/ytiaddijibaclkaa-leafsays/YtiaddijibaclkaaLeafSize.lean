/- leaf.size and Check, walked: each answers what the plain functions say, and nothing that was there has turned. Conditions: how many slots there are, how long their texts are. -/
import Derived.Test.YtiaddijibaclkaaLeafCheck
namespace Go.Proofs.Ytiaddijibaclkaa.PLeaf
open Go Go.RowKit
set_option maxRecDepth 100000

theorem Lf.head_len (x : Lf.Sl) (h : x.text.size ≤ 140737488355328) : (Lf.head x).length ≤ 10 := by
  unfold Lf.head
  apply PCode.Nb.natB_len10
  unfold Lf.headN
  split <;> omega
theorem body_le : ∀ (X : List Lf.Sl), Txs X → (Lf.body X).length ≤ X.length * 140737488355338
  | [], _ => by simp [Lf.body]
  | x :: X, h => by
    have ih := body_le X (fun y hy => h y (by simp [hy]))
    have hx := h x (by simp)
    have := Lf.head_len x hx
    rw [Lf.body_cons, List.length_append, Lf.one_len, List.length_cons, Nat.add_mul]
    omega
theorem Txs.take {X : List Lf.Sl} (h : Txs X) (k : Nat) : Txs (X.take k) := fun x hx => h x (List.mem_of_mem_take hx)

theorem box2 {w : World} {x y : Value} {T : TypeId} {w1 : World} (hb : Below (w.alloc (.cells #[x, y] T)).heap.size (w.alloc (.cells #[x, y] T)) w1) :
    w1.cell? ⟨w.heap.size, 0, none⟩ = some x ∧ w1.cell? ⟨w.heap.size, 1, none⟩ = some y := by
  have hg : w1.heap[w.heap.size]? = some (.cells #[x, y] T (0, 0)) := (hb.block _ (by simp)).trans (heap_alloc_new w _)
  exact ⟨by rw [cell_of_row w1 _ _ _ _ _ hg]; rfl, by rw [cell_of_row w1 _ _ _ _ _ hg]; rfl⟩
theorem new2 (w : World) (x y : Value) (T : TypeId) : (w.alloc (.cells #[x, y] T)).drew.cell? ⟨w.heap.size, 0, none⟩ = some x ∧ (w.alloc (.cells #[x, y] T)).drew.cell? ⟨w.heap.size, 1, none⟩ = some y :=
  box2 (w1 := (w.alloc (.cells #[x, y] T)).drew) (Below.refl _ (w.alloc (.cells #[x, y] T))).drew
theorem raw_add {a b : Nat} (h : a + b ≤ 9223372036854775807) : IntKind.i64.wrap ((a : Int) + (b : Int)) = ((a + b : Nat) : Int) := by
  rw [IntWalk.i64_in _ ⟨by omega, by omega⟩]; omega
theorem drew_below {a b : World} (h : Below a.drew.heap.size a.drew b) : Below a.heap.size a b := ⟨h.os, h.tape, h.output, h.size, h.block⟩

set_option maxHeartbeats 2000000 in
theorem size_any (w : World) (a : Option Addr) (c : Nat) (X : List Lf.Sl) (h : PgAt w a X) (hn : X.length ≤ 40) (ht : Txs X) :
    Calls Try.prog 89 #[.agg #[.slice a X.length c]] w fun e w' => e = .returned (.int .i64 (Lf.size X : Int)) ∧ Below w.heap.size w w' := by
  have K := hid fun W => count_any W a X.length c (by omega)
  have H := hid h
  have HT := hid ht
  have hl1 : (PCode.Nb.natB X.length).length = 1 := Lf.count_one (by omega)
  have HS := hid (Lf.size_eq X)
  have hsz : ((⟨(PCode.Nb.natB X.length).toArray⟩ : ByteArray).size : Int) = 1 := by rw [Lf.mk_size, hl1]; rfl
  obtain ⟨Y, hY⟩ : ∃ Y, Y = Lf.size X := ⟨_, rfl⟩
  rw [← hY]
  have HY : Hid (Y = 1 + (Lf.body X).length) := by show _ = _; rw [hY, HS.out, hl1]
  clear h ht HS hl1 hY
  generalize (⟨(PCode.Nb.natB X.length).toArray⟩ : ByteArray) = N at *
  go_enter Try.func89, Try.ntmps89
  go_wp2_with fail
  refine (K.out _).mono ?_
  rintro r w1 ⟨rfl, hb⟩
  have B1 := hid (below_tr (bx _ _) hb)
  have c0 : w1.cell? ⟨w.heap.size, 0, none⟩ = some (.slice a X.length c) := by
    have hg : w1.heap[w.heap.size]? = some _ := (hb.block _ (by simp)).trans (heap_alloc_new w _)
    rw [cell_of_row w1 _ _ _ _ _ hg]; rfl
  clear hb K
  go_wp2_with fail
  go_loopw [3, 12] (fun n i wr => ∃ k V : Nat, k ≤ X.length ∧ n = .int .i64 (V : Int) ∧ i = .int .i64 (k : Int) ∧ Hid (V = 1 + (Lf.body (X.take k)).length) ∧ Hid (Below w.heap.size w wr)) (fun _ i _ => X.length - (intOf i).toNat)
  case atStart => exact ⟨0, 1, Nat.zero_le _, rfl, rfl, rfl, B1⟩
  case round =>
    obtain ⟨k, V, hk, rfl, rfl, hV, hb⟩ := hrel
    by_cases hlt : k < X.length
    · obtain ⟨x, hx⟩ : ∃ x, X[k]? = some x := ⟨_, List.getElem?_eq_getElem hlt⟩
      obtain ⟨b, o, rfl, d1, d2⟩ := (H.out.below hb.out) k x hx
      have hxt := HT.out x (List.mem_of_getElem? hx)
      have KH := hid fun W => head_any W x hxt
      have NX := Lf.body_next hx
      have hhl := Lf.head_len x hxt
      have hbl := body_le (X.take k) (HT.out.take k)
      have hlk : (X.take k).length ≤ 40 := by rw [List.length_take]; omega
      have h1l := Lf.one_len x
      have hbnd : (Lf.body (X.take k)).length ≤ 40 * 140737488355338 := Nat.le_trans hbl (Nat.mul_le_mul_right _ hlk)
      have hms : (⟨(Lf.head x).toArray⟩ : ByteArray).size = (Lf.head x).length := Lf.mk_size _
      have hVo : V = 1 + (Lf.body (X.take k)).length := hV.out
      have HNX : Hid (V + ((⟨(Lf.head x).toArray⟩ : ByteArray).size + x.text.size) = 1 + (Lf.body (X.take (k + 1))).length) := by
        show _ = _
        rw [NX, List.length_append, hVo, h1l, hms]
        omega
      have q1 : ((⟨(Lf.head x).toArray⟩ : ByteArray).size : Int) ≤ 10 := by omega
      have q2 : (x.text.size : Int) ≤ 140737488355328 := by omega
      have q3 : (V : Int) ≤ 5629499534213521 := by omega
      clear hx hbl hlk h1l NX hms hhl hbnd hVo hV hxt
      obtain ⟨u, t⟩ := x
      simp only at d1 d2 q2 HNX KH
      generalize (⟨(Lf.head ⟨u, t⟩).toArray⟩ : ByteArray) = Hd at *
      have k0 : (0 : Int) ≤ (k : Int) := by omega
      have k1 : (k : Int) < (X.length : Int) := by omega
      go_wp2_with fail
      go_region_held3 (fun W => W.cell? ⟨wr.heap.size, 0, none⟩ = some (.bool u) ∧ W.cell? ⟨wr.heap.size, 1, none⟩ = some (.string t))
        (first | exact new2 _ _ _ _ | (go_split_ands; exact ⟨by assumption, by assumption⟩))
        ((go_at_call 94; refine (KH.out _).mono ?_; rintro r w3 ⟨rfl, hb3⟩; obtain ⟨m0, m1⟩ := box2 (drew_below hb3); have B3 := hid hb3; clear hb3))
      go_wp2_with fail
      go_roundw
      case rel => exact ⟨k + 1, _, by omega, by rw [raw_add (by omega), raw_add (by omega)], by go_num, HNX, hid (below_tr hb.out (below_tr (bx _ _) (drew_below B3.out)))⟩
      case measure => simp [intOf]; omega
    · obtain rfl : k = X.length := by omega
      have j1 : decide ((X.length : Int) < (X.length : Int)) = false := by simp
      have HY2 : Hid (V = Y) := by
        show _ = _
        have := hV.out
        rw [List.take_length] at this
        rw [this, HY.out]
      clear hV HY
      go_wp2_with fail
      go_ret
      exact ⟨by rw [HY2.out]; rfl, hb.out⟩

theorem box1 {w : World} {x : Value} {T : TypeId} {w1 : World} (hb : Below (w.alloc (.cells #[x] T)).heap.size (w.alloc (.cells #[x] T)) w1) : w1.cell? ⟨w.heap.size, 0, none⟩ = some x := by
  have hg : w1.heap[w.heap.size]? = some (.cells #[x] T (0, 0)) := (hb.block _ (by simp)).trans (heap_alloc_new w _)
  rw [cell_of_row w1 _ _ _ _ _ hg]; rfl

theorem text_some {t : ByteArray} (h : t.size ≠ 0) : t.toList.isEmpty = false := by
  rw [Lib.toList_data, List.isEmpty_eq_false_iff]
  intro e
  apply h
  rw [← Lf.size_list, e]; rfl

theorem check_odd {X : List Lf.Sl} (h1 : X.length ≤ 40) (h2 : Lf.odd X = true) : Lf.check X = 4 := by
  unfold Lf.check
  rw [if_neg (by omega), if_pos h2]
theorem check_ends {X : List Lf.Sl} (h1 : X.length ≤ 40) (h2 : Lf.ends X = true) : Lf.check X = 4 := by
  unfold Lf.check
  rw [if_neg (by omega), if_pos h2]
  split <;> rfl
theorem check_size {X : List Lf.Sl} (h1 : X.length ≤ 40) (h2 : Lf.odd X = false) (h3 : Lf.ends X = false) : Lf.check X = if 512 < Lf.size X then 8 else 0 := by
  unfold Lf.check
  rw [if_neg (by omega), if_neg (by simp [h2]), if_neg (by simp [h3])]

set_option maxHeartbeats 2000000 in
theorem check_any (w : World) (a : Option Addr) (c : Nat) (X : List Lf.Sl) (h : PgAt w a X) (hn : X.length ≤ 9223372036854775807) (ht : Txs X) :
    Calls Try.prog 56 #[.agg #[.slice a X.length c]] w fun e w' => e = .returned (.int .i64 (Lf.check X : Int)) ∧ Below w.heap.size w w' := by
  by_cases h40 : 40 < X.length
  · have hc : Lf.check X = 2 := by unfold Lf.check; rw [if_pos h40]
    rw [hc]
    have j1 : decide ((40 : Int) < (X.length : Int)) = true := by simp; omega
    have j2 : (40 : Int) < (X.length : Int) := by omega
    clear h ht hc
    go_enter Try.func56, Try.ntmps56
    go_wp2_with fail
    go_ret
    exact ⟨rfl, bx _ _⟩
  · have hn40 : X.length ≤ 40 := by omega
    have j1 : decide ((40 : Int) < (X.length : Int)) = false := by simp; omega
    have j2 : ¬ (40 : Int) < (X.length : Int) := by omega
    have H := hid h
    have HT := hid ht
    obtain ⟨Y, hY⟩ : ∃ Y, Y = Lf.check X := ⟨_, rfl⟩
    rw [← hY]
    have HY := hid hY
    have KE := hid fun W (hW : PgAt W a X) => ends_any W a c X hW (by omega)
    have KS := hid fun W (hW : PgAt W a X) => size_any W a c X hW hn40 ht
    clear h ht hY h40
    go_enter Try.func56, Try.ntmps56
    go_wp2_with fail
    go_loopw [12] (fun i wr => ∃ k : Nat, k ≤ X.length ∧ i = .int .i64 (k : Int) ∧ Hid (Lf.odd (X.take k) = false) ∧ Hid (Below (w.alloc (.cells #[.slice a X.length c] 73)).heap.size (w.alloc (.cells #[.slice a X.length c] 73)) wr)) (fun i _ => X.length - (intOf i).toNat)
    case atStart => exact ⟨0, Nat.zero_le _, rfl, rfl, Below.refl _ _⟩
    case round =>
      obtain ⟨k, hk, rfl, hO, hb⟩ := hrel
      by_cases hlt : k < X.length
      · obtain ⟨x, hx⟩ : ∃ x, X[k]? = some x := ⟨_, List.getElem?_eq_getElem hlt⟩
        obtain ⟨b, o, rfl, d1, d2⟩ := (H.out.below (below_tr (bx _ _) hb.out)) k x hx
        have k0 : (0 : Int) ≤ (k : Int) := by omega
        have k1 : (k : Int) < (X.length : Int) := by omega
        have NO : Hid (Lf.odd (X.take (k + 1)) = (Lf.odd (X.take k) || Lf.odd1 x)) := by
          show _ = _
          obtain ⟨g1, g2⟩ := List.getElem?_eq_some_iff.1 hx
          rw [List.take_succ_eq_append_getElem g1, g2]
          unfold Lf.odd
          rw [List.any_append]
          simp
        have OX : Hid (Lf.odd1 x = true → Lf.odd X = true) := fun e => by
          unfold Lf.odd
          rw [List.any_eq_true]
          exact ⟨x, List.mem_of_getElem? hx, e⟩
        clear hx
        obtain ⟨u, t⟩ := x
        simp only at d1 d2
        cases u with
        | true =>
          have NO' : Hid (Lf.odd (X.take (k + 1)) = false) := by show _ = _; rw [NO.out, hO.out]; rfl
          clear NO OX hO
          go_wp2_with fail
          go_roundw
          case rel => exact ⟨k + 1, by omega, by go_num, NO', hid (below_tr hb.out (bx _ _))⟩
          case measure => simp [intOf]; omega
        | false =>
          by_cases hz : t.size = 0
          · have := Lf.size_nil hz
            subst this
            have NO' : Hid (Lf.odd (X.take (k + 1)) = false) := by show _ = _; rw [NO.out, hO.out]; rfl
            unfold Lf.nob at d2
            clear NO OX hO hz
            go_wp2_with fail
            go_roundw
            case rel => exact ⟨k + 1, by omega, by go_num, NO', hid (below_tr hb.out (bx _ _))⟩
            case measure => simp [intOf]; omega
          · have hne := text_some hz
            have HY4 : Hid (Y = 4) := by show _ = _; rw [HY.out]; exact check_odd hn40 (OX.out (by unfold Lf.odd1; simp [hz]))
            clear NO OX hO hz
            go_wp2_with fail
            go_ret
            exact ⟨by rw [HY4.out]; rfl, below_tr (bx _ _) (below_tr hb.out (bx _ _))⟩
      · obtain rfl : k = X.length := by omega
        have j3 : decide ((X.length : Int) < (X.length : Int)) = false := by simp
        have hO2 : Lf.odd X = false := by have := hO.out; rwa [List.take_length] at this
        have HO2 := hid hO2
        have P0 := box1 hb.out
        have P1 := hid (H.out.below (below_tr (bx _ _) hb.out))
        have K1 := hid (KE.out wr P1.out)
        have K2 := hid (KS.out wr P1.out)
        clear hO hO2 KE KS
        by_cases hE : Lf.ends X = true
        · rw [hE] at K1
          have HY4 : Hid (Y = 4) := by show _ = _; rw [HY.out]; exact check_ends hn40 hE
          clear hE HY
          go_wp2_with fail
          refine K1.out.mono ?_
          rintro r w2 ⟨rfl, rfl⟩
          go_wp2_with fail
          go_ret
          exact ⟨by rw [HY4.out]; rfl, below_tr (bx _ _) hb.out⟩
        · have hE' : Lf.ends X = false := by simpa using hE
          have HYs := hid (HY.out.trans (check_size hn40 HO2.out hE'))
          rw [hE'] at K1
          clear hE hE' HY
          generalize Lf.size X = Z at *
          by_cases hz : 512 < Z
          · have hz' : (512 : Int) < (Z : Int) := by omega
            have HY8 : Hid (Y = 8) := by show _ = _; rw [HYs.out, if_pos hz]
            clear HYs
            go_wp2_with fail
            refine K1.out.mono ?_
            rintro r w2 ⟨rfl, rfl⟩
            go_wp2_with fail
            refine K2.out.mono ?_
            rintro r w3 ⟨rfl, hb3⟩
            have B3 := hid hb3
            clear hb3
            go_wp2_with fail
            go_ret
            exact ⟨by rw [HY8.out]; rfl, below_tr (bx _ _) (below_tr hb.out B3.out)⟩
          · have hz' : ¬ (512 : Int) < (Z : Int) := by omega
            have HY8 : Hid (Y = 0) := by show _ = _; rw [HYs.out, if_neg hz]
            clear HYs
            go_wp2_with fail
            refine K1.out.mono ?_
            rintro r w2 ⟨rfl, rfl⟩
            go_wp2_with fail
            refine K2.out.mono ?_
            rintro r w3 ⟨rfl, hb3⟩
            have B3 := hid hb3
            clear hb3
            go_wp2_with fail
            go_ret
            exact ⟨by rw [HY8.out]; rfl, below_tr (bx _ _) (below_tr hb.out B3.out)⟩

/-- What a page that is handed in may be. -/
structure PgIn (w : World) (a : Option Addr) (X : List Lf.Sl) : Prop where
  at_ : PgAt w a X
  len : X.length * 24 ≤ 140737488355328
  txs : Txs X
theorem PgIn.below {w w' : World} {a : Option Addr} {X : List Lf.Sl} (h : PgIn w a X) (hb : Below w.heap.size w w') : PgIn w' a X := ⟨h.at_.below hb, h.len, h.txs⟩

end Go.Proofs.Ytiaddijibaclkaa.PLeaf
