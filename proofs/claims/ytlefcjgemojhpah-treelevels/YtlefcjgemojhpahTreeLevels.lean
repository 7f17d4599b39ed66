/- quirkeep.TreeLevels, walked: true, whatever the deeds. -/
import Derived.Test.YtlefcjgemojhpahTreeLvm
namespace Go.Proofs.Ytlefcjgemojhpah.PTree
open Go Go.RowKit PPool
set_option maxRecDepth 100000
theorem one_at (w : World) (k : Int) (n : Int) (s : ByteArray) (ty : TypeId) : KdAt (w.alloc (.cells #[.int .i64 k, .int .i64 n, .string s] ty)) (some ⟨w.heap.size, 0, none⟩) [⟨k, n, s⟩] := fun j x hj => by
  have c := fun i => World.cell?_alloc_new w #[.int .i64 k, .int .i64 n, .string s] ty i
  cases j with
  | zero =>
    simp only [List.getElem?_cons_zero, Option.some.injEq] at hj
    subst hj
    exact ⟨w.heap.size, 0, rfl, by simp, c 0, c 1, c 2⟩
  | succ j => simp at hj
theorem two_len : ∀ {r : List Nat}, (∀ x ∈ r, 2 ≤ x) → 2 * r.length ≤ r.sum
  | [], _ => by simp
  | x :: r, h => by
    have := two_len (r := r) fun y hy => h y (by simp [hy])
    have := h x (by simp)
    simp only [List.length_cons, List.sum_cons]
    omega
set_option maxHeartbeats 8000000 in
theorem levels_walk (w : World) (a : Option Addr) (c : Nat) (X : List Kd) (hX : KdAt w a X) (hn : X.length ≤ 140737488355328) (hT : ∀ x ∈ X, x.text.size ≤ 140737488355328) :
    Calls Try.prog 5 #[.slice a X.length c] w fun e w' => e = .returned (.bool true) ∧ Below w.heap.size w w' := by
  have K1 := hid (treed_any _ (some ⟨w.heap.size, 0, none⟩) 1 [⟨1, 5, ⟨#[97]⟩⟩] (one_at w 1 5 ⟨#[97]⟩ 49) (by simp) (by intro x hx; simp at hx; subst hx; decide))
  have K2 := hid fun w1 (hb : Below w.heap.size w w1) => treed_any w1 a c X (hX.below hb) hn hT
  clear hX hn hT
  go_enter Try.func5, Try.ntmps5
  go_wp2_with fail
  refine K1.out.mono ?_
  rintro r w1 ⟨t1, o1, rfl, h1, -, -, h3⟩
  have e1 : runK [⟨1, 5, ⟨#[97]⟩⟩] = [⟨5, ⟨#[97]⟩⟩] := by rfl
  rw [e1] at h1
  have B1 : Hid (Below w.heap.size w w1) := below_tr (bx _ _) h3
  have K3 := hid (len_any w1 t1 o1 _ h1)
  obtain ⟨M1, H1, nd1, A1, T1, e2⟩ := h1
  have K4 := hid (levels_any w1 t1 o1 M1 H1 nd1 A1 T1)
  have hh1 : Hid (H1 = 0) := by
    cases H1 with
    | zero => rfl
    | succ H =>
      have q := many_keys T1.sh (T1.pos (by omega))
      have q1 : 1 ≤ 3 ^ H := Nat.one_le_pow _ _ (by omega)
      rw [e2, Nat.pow_succ] at q
      simp at q
      omega
  clear h3 T1 K1 e1 e2
  go_wp2_with fail
  refine K3.out.mono ?_
  rintro r w2 ⟨rfl, rfl⟩
  have j1 : ((([⟨5, ⟨#[97]⟩⟩] : List En).length : Nat) : Int) = 1 := rfl
  rw [j1]
  clear j1 K3
  go_wp2_with fail
  refine K4.out.mono ?_
  rintro r w3 ⟨v3, S3, rfl, h1, h2, h3⟩
  obtain ⟨a3, c3, rfl, -⟩ := h1.at_
  have l3 : S3.length = 1 := by rw [h2.len, levels_len, hh1.out]
  rw [l3]
  have B3 := hid (below_tr B1.out h3)
  clear h1 h2 h3 l3 K4 hh1 B1 S3
  have j1 : ((1 : Nat) : Int) = 1 := rfl
  go_wp2_with fail
  refine (K2.out _ B3.out).mono ?_
  rintro r w4 ⟨t, o, rfl, h1, -, -, h3⟩
  have B4 := hid (below_tr B3.out h3)
  have K5 := hid fun w' (hb : Below w4.heap.size w4 w') => len_any w' t o _ (h1.below hb)
  obtain ⟨M, h, nd, A, T, e2⟩ := h1
  have K6 := hid (levels_any w4 t o M h nd A T)
  have F := fits_of T
  rw [e2] at F
  clear h3 T K2 e2
  generalize (runK X).length = n at *
  go_wp2_with fail
  refine K6.out.mono ?_
  rintro r w5 ⟨v5, S, rfl, h1, h2, h3⟩
  have B5 := hid (below_tr B4.out h3)
  have K7 := hid (K5.out _ h3)
  generalize levels h [nd] = Lv at *
  have ls : S.length = h + 1 := by rw [h2.len, F.len]
  obtain ⟨g, cs, cur, rfl, -⟩ := h1.open_ (by omega)
  rw [ls] at h1 ⊢
  have HO := hid h1
  have HL := hid h2
  have HF := hid F
  have HS : Hid (S.length = h + 1) := ls
  have hh : (h : Int) ≤ 1000 := by
    have := F.many
    have := F.small
    by_cases e : h = 0
    · omega
    · have q := this
      have q2 : h < 2 ^ h := Nat.lt_two_pow_self
      have q3 : 2 ^ h ≤ 3 ^ h := Nat.pow_le_pow_left (by omega) h
      have q4 := F.many e
      omega
  clear h1 h2 h3 F ls K5 K6 B4 B3
  go_wp2_with fail
  go_loop [6, 7, 36] (fun vn vo i => ∃ k : Nat, k ≤ h + 1 ∧ i = .int .i64 (k : Int) ∧ vn = .int .i64 (allsum (Lv.take k) : Int) ∧ vo = .int .i64 (nodesOf Lv k : Int)) (fun _ _ i => (h + 1) - (intOf i).toNat)
  case atStart => exact ⟨0, by omega, rfl, rfl, rfl⟩
  case round =>
    obtain ⟨k, hk, rfl, rfl, rfl⟩ := hrel
    by_cases hlt : k < h + 1
    · obtain ⟨row, hrow⟩ : ∃ r, Lv[k]? = some r := ⟨_, List.getElem?_eq_getElem (by rw [HF.out.len]; exact hlt)⟩
      obtain ⟨u, hu1, hu2⟩ := HL.out.at_ k row hrow
      have d1 := HO.out.cell hu1
      obtain ⟨ua, uc, rfl, hra, -⟩ := hu2.at_
      obtain ⟨hf1, hf2⟩ := HF.out.rows k row hrow
      have hll : (toI row).length = row.length := by simp [toI]
      rw [hll] at d1
      rw [← hf1]
      have HRS := hid (take_allsum hrow)
      have HNX : Hid (nodesOf Lv (k + 1) = row.sum + row.length) := by
        show (((Lv[k]?).map fun r => r.sum + r.length).getD 0) = _
        rw [hrow]; rfl
      have hle := allsum_le Lv (k + 1)
      have hsm := HF.out.small
      rw [HRS.out, HF.out.sum] at hle
      have HA := hid hra
      have H2 := hid hf2
      obtain ⟨N, hN⟩ : ∃ N, N = row.length := ⟨_, rfl⟩
      have HRN := hid hN
      rw [← hN] at d1 HNX ⊢
      generalize allsum (Lv.take k) = Z at *
      have k0 : (0 : Int) ≤ (k : Int) := by omega
      have k1 : (k : Int) < (h : Int) + 1 := by omega
      have hNs : N ≤ 2000 := by
        by_cases e : k = 0
        · subst e
          have : row.length = 1 := hf1
          omega
        · have := two_len (r := row) fun x hx => by have := (hf2 x hx).1; rwa [if_neg e] at this
          omega
      clear hf1 hf2 hll hra hu1 hu2 hN
      go_wp2_with fail
      go_loop [6, 7, 47] (fun vn vo i => ∃ j : Nat, j ≤ N ∧ i = .int .i64 (j : Int) ∧ vn = .int .i64 ((Z + (row.take j).sum : Nat) : Int) ∧ vo = .int .i64 (((row.take j).sum + j : Nat) : Int)) (fun _ _ i => N - (intOf i).toNat)
      case atStart => exact ⟨0, by omega, rfl, rfl, rfl⟩
      case round =>
        obtain ⟨j, hj, rfl, rfl, rfl⟩ := hrel
        by_cases hjl : j < N
        · obtain ⟨x, hx⟩ : ∃ x, row[j]? = some x := ⟨_, List.getElem?_eq_getElem (by rw [← HRN.out]; exact hjl)⟩
          have d2 := HA.out j (x : Int) (by unfold toI; rw [List.getElem?_map, hx]; rfl)
          obtain ⟨ub, uo, rfl, d2⟩ := d2
          have h2 := H2.out x (List.mem_of_getElem? hx)
          have HTS := hid (take_sum hx)
          have hsl := sum_le row (j + 1)
          rw [HTS.out] at hsl
          generalize (row.take j).sum = Y at *
          have q0 : (0 : Int) ≤ (j : Int) := by omega
          have q1 : (j : Int) < (N : Int) := by omega
          have HJ := hid hx
          have h4 : ¬ (4 : Int) < (x : Int) := by omega
          clear hx
          by_cases hk0 : k = 0
          · subst hk0
            have hm : min 1 h ≤ x := by have := h2.1; rwa [if_pos rfl] at this
            by_cases hh0 : h = 0
            · subst hh0
              go_wp2_with fail
              exact ⟨⟨_, _, _, _, _, _, ⟨j + 1, by omega, by go_num, by rw [HTS.out]; go_num, by rw [HTS.out]; go_num⟩, rfl, rfl, rfl, rfl, rfl, rfl⟩, by simp [intOf]; omega⟩
            · have h5 : (1 : Int) ≤ (h : Int) := by omega
              have h6 : (1 : Int) ≤ (x : Int) := by omega
              go_wp2_with fail
              exact ⟨⟨_, _, _, _, _, _, ⟨j + 1, by omega, by go_num, by rw [HTS.out]; go_num, by rw [HTS.out]; go_num⟩, rfl, rfl, rfl, rfl, rfl, rfl⟩, by simp [intOf]; omega⟩
          · have h5 : ((k : Int) == 0) = false := by simp; omega
            have h6 : (2 : Int) ≤ (x : Int) := by have := h2.1; rw [if_neg hk0] at this; omega
            go_wp2_with fail
            exact ⟨⟨j + 1, by omega, by go_num, by rw [HTS.out]; go_num, by rw [HTS.out]; go_num⟩, by simp [intOf]; omega⟩
        · obtain rfl : j = N := by omega
          have j3 : decide ((j : Int) < (j : Int)) = false := by simp
          have hts : row.take j = row := by rw [HRN.out, List.take_length]
          go_wp2_with fail
          exact ⟨⟨k + 1, by omega, by go_num, by rw [HRS.out, hts], by rw [HNX.out, hts]⟩, by simp [intOf]; omega⟩
    · obtain rfl : k = h + 1 := by omega
      have hts : allsum (Lv.take (h + 1)) = n := by rw [← HF.out.len, List.take_length, HF.out.sum]
      rw [hts]
      clear hts
      have hsm := HF.out.small
      go_wp2_with fail
      go_loop [13, 76] (fun v i => ∃ j : Nat, j ≤ h ∧ i = .int .i64 (j : Int) ∧ v = .int .i64 ((3 ^ j : Nat) : Int)) (fun _ i => h - (intOf i).toNat)
      case atStart => exact ⟨0, by omega, rfl, rfl⟩
      case round =>
        obtain ⟨j, hj, rfl, rfl⟩ := hrel
        by_cases hjl : j < h
        · have hp : 3 ^ j ≤ 2000 := by
            have := HF.out.many (by omega)
            have q : 3 ^ j ≤ 3 ^ h := Nat.pow_le_pow_right (by omega) hj
            have q1 : 1 ≤ 3 ^ h := Nat.one_le_pow _ _ (by omega)
            omega
          have HP : Hid (3 ^ (j + 1) = 3 ^ j * 3) := Nat.pow_succ ..
          generalize 3 ^ j = p at *
          have q0 : (0 : Int) ≤ (j : Int) := by omega
          have q1 : (j : Int) < (h : Int) := by omega
          have q2 : (p : Int) ≤ 2000 := by omega
          have q3 : (0 : Int) ≤ (p : Int) := by omega
          go_wp2_with fail
          exact ⟨⟨j + 1, by omega, by go_num, by rw [HP.out]; go_num⟩, by simp [intOf]; omega⟩
        · obtain rfl : j = h := by omega
          by_cases hh0 : j = 0
          · subst hh0
            go_wp2_with fail
            refine K7.out.mono ?_
            rintro r w6 ⟨rfl, rfl⟩
            go_wp2_with fail
            go_ret
            exact ⟨rfl, B5.out⟩
          · have hm := HF.out.many hh0
            have q1 : 1 ≤ 3 ^ j := Nat.one_le_pow _ _ (by omega)
            generalize 3 ^ j = p at *
            have q2 : (2 : Int) * (p : Int) - 1 ≤ (n : Int) := by omega
            have q3 : (1 : Int) ≤ (p : Int) := by omega
            have q4 : (p : Int) ≤ 2000 := by omega
            have q5 : (1 : Int) ≤ (j : Int) := by omega
            have q6 : ((j : Int) + 1 == 1) = false := by simp; omega
            go_wp2_with fail
            refine K7.out.mono ?_
            rintro r w6 ⟨rfl, rfl⟩
            go_wp2_with fail
            go_ret
            exact ⟨rfl, B5.out⟩
end Go.Proofs.Ytlefcjgemojhpah.PTree
