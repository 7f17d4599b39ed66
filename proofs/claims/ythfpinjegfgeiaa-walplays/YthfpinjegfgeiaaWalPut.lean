/- A log's record, walked: putRecord. -/
import Derived.Test.YthfpinjegfgeiaaWalHead
namespace Go.Proofs.Ythfpinjegfgeiaa
open Go Go.RowKit
set_option maxRecDepth 100000

def sv (l : List UInt8) : Value := .string (ba l)
def strOf : Value → ByteArray | .string s => s | _ => ⟨#[]⟩
def intOf : Value → Int | .int _ q => q | _ => 0
theorem ba_empty (l : List UInt8) : (ba l).toList.isEmpty = l.isEmpty := by rw [Lib.toList_data, ba_list]
theorem ba_take (l : List UInt8) (k : Nat) : (ba l).extract 0 k = ba (l.take k) := bytes_eq (by rw [cut_list, ba_list, ba_list]; simp)
theorem ba_drop (l : List UInt8) (k : Nat) : (ba l).extract k (ba l).size = ba (l.drop k) := bytes_eq (by rw [from_list, ba_list, ba_list])

theorem tx_of_owns {w : World} {base : Nat} {v : Value} {l : List ByteArray} (hl : l ≠ []) (h : w.ownsRow base 9 1 v l.length (l.map Value.string)) :
    ∃ g c, v = .slice (some ⟨g, 0, none⟩) l.length c ∧ TxAt w g 0 c l ∧ base ≤ g := by
  have hpos : 0 < l.length := List.length_pos_iff.2 hl
  rcases h.2 with ⟨_, h0⟩ | ⟨g, cap, cur, hv, hb, hg, h1, h2, h3, h4⟩
  · omega
  · refine ⟨g, cap, hv, ⟨h1, h2, cur, hg, by omega, fun j t hj => ?_⟩, hb⟩
    have e : (l.map Value.string)[j]? = some (.string t) := by rw [List.getElem?_map, hj]; rfl
    rw [← h4] at e
    rw [Nat.mul_one, List.getElem?_take] at e
    split at e
    · rw [Nat.zero_add]; simpa using e
    · cases e

theorem news_str (wr : World) (t : ByteArray) : ∀ j u, [Value.string t][j]? = some u → (wr.alloc (.cells #[.string t] 9)).cell? ((⟨wr.heap.size, 0, none⟩ : Addr).add j) = some u := by
  intro j u hj
  match j, hj with
  | 0, hj =>
    simp at hj
    subst hj
    simp [Addr.add]
theorem cell_str (t : ByteArray) : ∀ u ∈ [Value.string t], u.oneCell' = true := fun u hu => by rw [List.mem_singleton.1 hu]; rfl

set_option maxHeartbeats 2000000 in
theorem putRecord_any (t : ByteArray) (e n : Int) (w : World) (ht : t.size ≤ 300) (he : Wl.I64 e) (hn : Wl.I64 n) :
    Calls Try.prog 67 #[.string t, .int .i64 e, .int .i64 n] w fun r w' =>
      ∃ g c, r = .returned (.slice (some ⟨g, 0, none⟩) (Wl.secsOf e n t.data.toList).length c) ∧ TxAt w' g 0 c ((Wl.secsOf e n t.data.toList).map ba) ∧ w.heap.size ≤ g ∧ Below w.heap.size w w' := by
  have H1 := fun W => PCode.putText_fits t W (by omega)
  have ec : (⟨(PCode.Nb.natB t.size).toArray⟩ : ByteArray) ++ t = ba (PCode.Nb.natB t.data.toList.length ++ t.data.toList) := by
    apply bytes_eq
    rw [app_list, ba_list, size_list]
  rw [ec] at H1
  have hnb : (PCode.Nb.natB t.size).length ≤ 10 := PCode.Nb.natB_len10 t.size (by omega)
  have H2 := fun W => PFold.put_fits (ba (PCode.Nb.natB t.data.toList.length ++ t.data.toList)) W (by rw [ba_size, List.length_append, size_list]; omega)
  rw [fold_put] at H2
  have HB : Wl.sumF (PCode.Nb.natB t.data.toList.length ++ t.data.toList) = Wl.bytesOf t.data.toList := rfl
  rw [HB] at H2
  have hbl := Wl.bytes_len t.data.toList
  rw [size_list] at hbl
  obtain ⟨f0, hf0, hsec⟩ := Wl.secs_cons e n t.data.toList
  have hsne : Wl.secsOf e n t.data.toList ≠ [] := by rw [hsec]; simp
  have hS : Wl.secsOf e n t.data.toList = Wl.cut (Wl.headB 2 e n) (Wl.headB 1 e n) (Wl.bytesOf t.data.toList).length (Wl.bytesOf t.data.toList) := rfl
  have hb2 : (Wl.bytesOf t.data.toList).length ≤ 320 := by omega
  have K1 := fun W => putHead_any 1 e n W he hn
  have K2 := fun W => putHead_any 2 e n W he hn
  have hd1 := Wl.head_len 1 e n he hn
  have hd2 := Wl.head_len 2 e n he hn
  generalize Wl.secsOf e n t.data.toList = S at *
  generalize Wl.bytesOf t.data.toList = b at *
  generalize ba (PCode.Nb.natB t.data.toList.length ++ t.data.toList) = cc at *
  generalize Wl.headB 1 e n = h1 at *
  generalize Wl.headB 2 e n = h2 at *
  clear ec HB hsec hbl hnb
  have H1' := hid H1
  have H2' := hid H2
  have K1' := hid K1
  have K2' := hid K2
  have HS := hid hS
  have HN := hid hsne
  obtain ⟨i0, hi, hz0, hz1, hz2⟩ := info_parts tx_info
  clear H1 H2 K1 K2 hS hsne hf0
  go_enter Try.func67, Try.ntmps67
  go_wp2_with fail
  refine (H1'.out _).mono ?_
  rintro r w1 ⟨rfl, hb1⟩
  go_wp2_with fail
  refine (H2'.out _).mono ?_
  rintro r w2 ⟨rfl, hb2⟩
  go_wp2_with fail
  refine (K1'.out _).mono ?_
  rintro r w3 ⟨rfl, hb3⟩
  have B3 := hid (below_tr (below_tr hb1 hb2) hb3)
  clear hb1 hb2 hb3 H1' H2' K1'
  go_wp2_with fail
  go_loopw [9, 11, 12] (fun rest v head wr => ∃ (D : List (List UInt8)) (r h : List UInt8) (f : Nat), rest = .string (ba r) ∧ head = .string (ba h) ∧ wr.ownsRow w.heap.size 9 1 v D.length ((D.map ba).map Value.string) ∧ Hid (S = D ++ Wl.cut h2 h f r) ∧ r.length ≤ f ∧ D.length + r.length ≤ 320 ∧ (3 ≤ h.length ∧ h.length ≤ 21) ∧ Hid (Below w.heap.size w wr)) (fun rest _ _ _ => (strOf rest).size)
  case atStart => exact ⟨[], b, h1, b.length, rfl, rfl, World.ownsRow_nil _ _ _ _, by show _ = _; rw [HS.out]; rfl, Nat.le_refl _, by simp; omega, hd1, B3⟩
  case round =>
    obtain ⟨D, r, h, f, rfl, rfl, hown, hS, hrf, hDr, hh, hbel⟩ := hrel
    cases r with
    | nil =>
      have e0 : (ba ([] : List UInt8)).toList.isEmpty = true := by rw [ba_empty]; rfl
      have hSD : S = D := by
        rw [hS.out]
        cases f with
        | zero => simp [Wl.cut]
        | succ f => simp [Wl.cut]
      have hDl : S.length = (D.map ba).length := by rw [hSD, List.length_map]
      have hl : D.length = (D.map ba).length := by rw [List.length_map]
      rw [hl] at hown
      obtain ⟨g, c, rfl, htx, hg⟩ := tx_of_owns (by rw [← hSD]; simpa using HN.out) hown
      have TX : Hid (TxAt wr g 0 c (S.map ba)) := by rw [hSD]; exact htx
      have HL := hid hDl
      clear hown htx hl hDl hSD hS
      go_wp2_with fail
      go_ret
      exact ⟨g, c, by rw [HL.out]; rfl, TX.out, hg, hbel.out⟩
    | cons x r =>
      have e0 : (ba (x :: r)).toList.isEmpty = false := by rw [ba_empty]; rfl
      generalize hR : x :: r = R at *
      have hRp : 0 < R.length := by rw [← hR]; simp
      obtain ⟨k, hk⟩ : ∃ k, k = min (64 - h.length) R.length := ⟨_, rfl⟩
      have hk1 : 0 < k ∧ k ≤ R.length ∧ k ≤ 64 - h.length := by omega
      have s1 := ba_size h
      have s2 := ba_size R
      have c1 := fun W => PFold.cut_to (ba R) (k : Int) (by omega) (by omega) W
      have c2 := fun W => PFold.cut_from (ba R) (k : Int) (by omega) (by omega) W
      rw [Int.toNat_natCast, ba_take] at c1
      rw [Int.toNat_natCast, ba_drop] at c2
      have s3 : (ba (R.take k)).size = k := by rw [ba_size, List.length_take]; omega
      have hcat := hid (ba_app h (R.take k))
      have hmin : min (64 - (h.length : Int)) (R.length : Int) = (k : Int) := by omega
      have nx : Wl.cut h2 h f R = (h ++ R.take k) :: Wl.cut h2 h2 (f - 1) (R.drop k) := by
        obtain ⟨f', rfl⟩ : ∃ f', f = f' + 1 := ⟨f - 1, by omega⟩
        have hne : R ≠ [] := by intro e; rw [e] at hRp; simp at hRp
        rw [Wl.cut, if_neg hne, Nat.add_sub_cancel]
        by_cases hc : 64 - h.length ≤ R.length
        · rw [show 64 - h.length = k by omega]
        · have hkR : k = R.length := by omega
          rw [List.take_of_length_le (by omega : R.length ≤ 64 - h.length), List.drop_of_length_le (by omega : R.length ≤ 64 - h.length), hkR, List.take_length, List.drop_length]
      have hrl : (R.drop k).length = R.length - k := by rw [List.length_drop]
      have NS : Hid (S = (D ++ [h ++ R.take k]) ++ Wl.cut h2 h2 (f - 1) (R.drop k)) := by
        show _ = _
        rw [hS.out, nx, List.append_assoc]
        rfl
      clear hS nx hk hR
      generalize ba R = q at *
      generalize ba h = y at *
      generalize ba (R.take k) = p at *
      go_wp2_with (at_builtin; refine wpList_append_own _ rfl _ _ 54 rfl w.heap.size 9 i0 (.string ⟨#[]⟩) 1 16 Try.underlying54 hi hz0 hz1 hz2 rfl (by decide) _ _ _ rfl (hown.alloc _) ⟨wr.heap.size, 0, none⟩ 1 1 [.string (y ++ p)] rfl rfl ?c1 ?c2 ?c3 ?c4 ?c5 ?_)
      case c1 => exact news_str wr (y ++ p)
      case c2 => exact cell_str _
      case c3 => unfold maxLen; omega
      case c4 => omega
      case c5 => have := hbel.out.size; simp; omega
      · intro v' w4 hown' hgrow _
        rw [hcat.out] at hown'
        have hown'' : w4.ownsRow w.heap.size 9 1 v' (D ++ [h ++ R.take k]).length (((D ++ [h ++ R.take k]).map ba).map Value.string) := by simpa using hown'
        have hb4 : Below w.heap.size w w4 := (hbel.out.alloc hbel.out.size _).grown hgrow (by have := hbel.out.size; simp; omega) (fun k hk => (hown.lt k hk).1)
        have HO := hid hown''
        have HB := hid hb4
        clear hown' hown'' hgrow hown hb4 hbel
        go_wp2_with fail
        refine (K2'.out _).mono ?_
        rintro r w5 ⟨rfl, hb5⟩
        go_wp2_with fail
        go_roundw
        case rel => exact ⟨D ++ [h ++ R.take k], R.drop k, h2, f - 1, rfl, rfl, ownsRow_of_block HO.out (fun g hg => hb5.block g (World.ownsRow.lt HO.out g hg).2), NS.out, by omega, by simp; omega, hd2, HB.out.trans (hb5.mono HB.out.size)⟩
        case measure => (simp only [strOf]; rw [ba_size]; omega)
end Go.Proofs.Ythfpinjegfgeiaa
