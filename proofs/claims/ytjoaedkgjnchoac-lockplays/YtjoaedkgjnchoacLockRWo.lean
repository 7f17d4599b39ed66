/- quirref.DropLocks' closure that leaves out a transaction's locks, walked: a row of its own. Conditions: the locks lie where their slice says; how many there are; the number lies in the box. -/
import Derived.Test.YtjoaedkgjnchoacLockRGv
namespace Go.Proofs.Ytjoaedkgjnchoac.PLock
open Go Go.RowKit PPool
set_option maxRecDepth 100000

theorem less_next {L : List Lk.Lo} {k : Nat} {x : Lk.Lo} {t : Int} (hx : L[k]? = some x) : Lk.less (L.take (k + 1)) t = Lk.less (L.take k) t ++ if x.x = t then [] else [x] := by
  obtain ⟨h1, h2⟩ := List.getElem?_eq_some_iff.1 hx
  unfold Lk.less
  rw [List.take_succ_eq_append_getElem h1, List.filter_append, h2]
  congr 1
  by_cases e : x.x = t <;> simp [e]

set_option maxHeartbeats 4000000 in
theorem rless_any (w : World) (v0 : Value) (L : List Lk.Lo) (t : Int) (pb : Nat) (h : LsAt w v0 L) (hp : w.cell? ⟨pb, 0, none⟩ = some (.int .i64 t)) (hl : L.length ≤ 2000) :
    Calls Try.prog 39 #[v0, .pointer (some ⟨pb, 0, none⟩)] w fun e w' => ∃ v, e = .returned v ∧ OwnLk w' w.heap.size v (Lk.less L t) ∧ Below w.heap.size w w' := by
  obtain ⟨a, c, rfl, ph, _, _, _⟩ := h
  have PH := hid ph
  have HP := hid hp
  have HN := hid fun k x (hx : L[k]? = some x) => less_next (t := t) hx
  have HL : Hid (∀ k, (Lk.less (L.take k) t).length ≤ L.length) := fun k => Nat.le_trans (List.length_filter_le _ _) (by rw [List.length_take]; exact Nat.min_le_right _ _)
  have HE : Hid (Lk.less L t = Lk.less (L.take L.length) t) := by show _ = _; rw [List.take_length]
  have HZ : Hid (Lk.less (L.take 0) t = []) := rfl
  generalize Lk.less L t = R at *
  obtain ⟨G, hG⟩ : ∃ G, G = fun k => Lk.less (L.take k) t := ⟨_, rfl⟩
  have HN : Hid (∀ k x, L[k]? = some x → G (k + 1) = G k ++ if x.x = t then [] else [x]) := by show ∀ k x, _; rw [hG]; exact HN.out
  have HL : Hid (∀ k, (G k).length ≤ L.length) := by show ∀ k, _; rw [hG]; exact HL.out
  have HE : Hid (R = G L.length) := by show _ = _; rw [hG]; exact HE.out
  have HZ : Hid (G 0 = []) := by show _ = _; rw [hG]; exact HZ.out
  clear hG ph hp
  obtain ⟨n, hn⟩ : ∃ n, n = L.length := ⟨_, rfl⟩
  rw [← hn] at HL HE ⊢
  have ln : (n : Int) ≤ 2000 := by omega
  have HLN := hid hn
  clear hn hl
  go_enter Try.func39, Try.ntmps39
  go_wp2_with fail
  go_loopw [4, 9] (fun ov ix wr => ∃ (k : Nat) (v : Value), k ≤ n ∧ v = ov ∧ ix = .int .i64 (k : Int) ∧ Hid (OwnLk wr w.heap.size v (G k)) ∧ Hid (Below w.heap.size w wr)) (fun _ ix _ => n - (intOf ix).toNat)
  case atStart => exact ⟨0, _, Nat.zero_le _, rfl, rfl, by show OwnLk _ _ _ _; rw [HZ.out]; exact OwnLk.nil _ _, Below.refl _ _⟩
  case round =>
    obtain ⟨k, v, hk, rfl, rfl, hO, hb⟩ := hrel
    by_cases hlt : k < n
    · obtain ⟨x, hx⟩ : ∃ x, L[k]? = some x := ⟨_, List.getElem?_eq_getElem (by have := HLN.out; omega)⟩
      obtain ⟨b, o, rfl, d1, d2⟩ := (PH.out.below hb.out) k x hx
      have k0 : (0 : Int) ≤ (k : Int) := by omega
      have k1 : (k : Int) < (n : Int) := by omega
      have HX := hid (HN.out k x hx)
      have p0 : ∀ o, (wr.alloc o).cell? ⟨pb, 0, none⟩ = some (.int .i64 t) := fun o => keep1 (bx _ _) (keep1 hb.out HP.out)
      clear hx
      obtain ⟨xx, xm⟩ := x
      simp only at d1 d2 HX
      by_cases e : xx = t
      · have e' : (xx != t) = false := by simpa using e
        have HY : Hid (G (k + 1) = G k) := by show _ = _; rw [HX.out, if_pos e, List.append_nil]
        have O2 : ∀ o, Hid (OwnLk (wr.alloc o) w.heap.size v (G (k + 1))) := fun o => by show OwnLk _ _ _ _; rw [HY.out]; exact hO.out.below (bx _ _)
        have B2 : ∀ o, Hid (Below w.heap.size w (wr.alloc o)) := fun o => below_tr hb.out (bx _ _)
        clear HX e HY hO hb
        go_wp2_with fail
        go_roundw
        case rel => exact ⟨k + 1, v, by omega, rfl, by go_num, O2 _, B2 _⟩
        case measure => simp [intOf]; omega
      · have e' : (xx != t) = true := by simpa using e
        have HY : Hid (G (k + 1) = G k ++ [⟨xx, xm⟩]) := by show _ = _; rw [HX.out, if_neg e]
        clear HX e
        have B2 := hid (below_tr hb.out (below_tr (bx wr (.cells #[.int .i64 xx, .int .i64 xm] 65)) (bx _ (.cells #[.int .i64 xx, .int .i64 xm] 65))))
        go_wp2_with (at_builtin; refine wpList_append_lk rfl _ _ rfl w.heap.size _ (G k) rfl (hO.out.below (below_tr (bx _ _) (bx _ _))) (some ⟨wr.heap.size + 1, 0, none⟩) 1 [⟨xx, xm⟩] rfl (one_at2 _ _ _ _) (fun e => by cases e) ?c1 ?c2 ?_)
        case c1 => have := HL.out k; show (_ + 1) * 16 ≤ _; omega
        case c2 => exact B2.out.size
        intro v5 w5 ho5 hg5
        have O5 : Hid (OwnLk w5 w.heap.size v5 (G (k + 1))) := by show OwnLk _ _ _ _; rw [HY.out]; exact ho5
        have B5 : Hid (Below w.heap.size w w5) := B2.out.grown hg5 B2.out.size (fun g hg => (hO.out.lt g hg).1)
        clear ho5 hg5 hO hb B2 p0 d1 d2
        go_wp2_with fail
        go_roundw
        case rel => exact ⟨k + 1, _, by omega, rfl, by go_num, O5, B5⟩
        case measure => simp [intOf]; omega
    · obtain rfl : k = n := by omega
      have j3 : decide ((k : Int) < (k : Int)) = false := by simp
      have O2 : Hid (OwnLk wr w.heap.size v R) := by show OwnLk _ _ _ _; rw [HE.out]; exact hO.out
      clear hO
      go_wp2_with fail
      go_ret
      exact ⟨_, rfl, O2.out, hb.out⟩
end Go.Proofs.Ytjoaedkgjnchoac.PLock
