/- The document's own disk: blank, Read, Fuse, slices.Clone, Flush. -/
import Derived.Test.YthfpinjegfgeiaaSectRef
import Derived.Test.YthfpinjegfgeiaaSectRep
import Derived.Lib.SliceRun
namespace Go.Proofs.Ythfpinjegfgeiaa
open Go Go.RowKit
set_option maxRecDepth 100000

theorem tx_info' : (Try.prog.info? 9).map (fun i => (i.zero, i.size, i.bytes)) = some (some (.string ⟨#[]⟩), 1, 16) := by kernel_rfl
theorem in_info : (Try.prog.info? 3).map (fun i => (i.zero, i.size, i.bytes)) = some (some (.int .i64 0), 1, 8) := by kernel_rfl

section
variable {W : World} {b : Nat} {F : Nat → FR} {d : SD} (h : RefAt W b F d)
include h
theorem RefAt.c0 : W.cell? ⟨b, 0, none⟩ = some (.slice (F 0).a d.seen.length (F 0).c) := h.rs.cell 0 _ rfl
theorem RefAt.c1 : W.cell? ⟨b, 1, none⟩ = some (.slice (F 1).a d.safe.length (F 1).c) := h.rs.cell 1 _ rfl
theorem RefAt.c2 : W.cell? ⟨b, 2, none⟩ = some (.slice (F 2).a d.loose.length (F 2).c) := h.rs.cell 2 _ rfl
theorem RefAt.c3 : W.cell? ⟨b, 3, none⟩ = some (.slice (F 3).a d.loose.length (F 3).c) := h.rs.cell 3 _ rfl
theorem RefAt.c4 : W.cell? ⟨b, 4, none⟩ = some (.int .i64 (rl d)) := h.rs.cell 4 _ rfl
end

theorem rl_down (d : SD) : (rl d == 0) = d.down := by
  unfold rl SD.down
  cases d.fused <;> simp

set_option maxHeartbeats 1000000 in
theorem blank_any (n : Nat) (hn : n ≤ 64) (w : World) : Calls Try.prog 50 #[.int .i64 (n : Int)] w fun e w' => e = .returned (.string (zeros n)) ∧ Below w.heap.size w w' := by
  have H := hid fun W => repeat_any n (by omega) W
  generalize zeros n = z at *
  go_enter Try.func50, Try.ntmps50
  go_wp2_with fail
  refine (H.out _).mono ?_
  rintro r w1 ⟨rfl, hb⟩
  go_wp2_with fail
  go_ret
  exact ⟨rfl, hb⟩

set_option maxHeartbeats 1000000 in
theorem ref_read (w : World) (b : Nat) (F : Nat → FR) (d : SD) (h : RefAt w b F d) (a : Int) : Calls Try.prog 53 #[.pointer (some ⟨b, 0, none⟩), .int .i64 a] w fun e w' => e = .returned (.tuple #[.string (d.read a).1, .int .i64 (d.read a).2]) ∧ w' = w := by
  have c0 := h.c0
  have c4 := h.c4
  have hsm := h.ok.small
  have hd := rl_down d
  by_cases ha : 0 ≤ a ∧ a < d.n
  · obtain ⟨k, rfl⟩ : ∃ k : Nat, a = k := ⟨a.toNat, by omega⟩
    have hkn : k < d.seen.length := by have := ha.2; unfold SD.n at this; omega
    have e1 : decide ((k : Int) < 0) = false := by simp
    have e3 : decide ((d.seen.length : Int) ≤ (k : Int)) = false := by simp; omega
    have e4 : decide (d.seen.length ≤ k) = false := by simp; omega
    by_cases hdn : d.down = true
    · have e2 : d.read k = (⟨#[]⟩, 13) := by unfold SD.read; rw [if_pos ha, if_pos hdn]
      rw [e2]
      rw [hdn] at hd
      generalize rl d = L at *
      clear h e2 hdn ha
      go_enter Try.func53, Try.ntmps53
      go_wp2
      all_goals (go_ret2; exact ⟨rfl, rfl⟩)
    · have hdn' : d.down = false := by simpa using hdn
      have e2 : d.read k = (d.seen.getD k ⟨#[]⟩, 0) := by unfold SD.read; rw [if_pos ha, if_neg hdn]; simp
      rw [e2]
      rw [hdn'] at hd
      obtain ⟨g, hg, hc, _⟩ := h.rs.at_ 0 (by omega) (by show 0 < (d.seen.map Value.string).length; rw [List.length_map]; omega)
      have hk := hc k (.string (d.seen.getD k ⟨#[]⟩)) (by show (d.seen.map Value.string)[k]? = _; rw [List.getElem?_map, List.getElem?_eq_getElem hkn]; simp [List.getD, List.getElem?_eq_getElem hkn])
      rw [hg] at c0
      have k0 : (0 : Int) ≤ (k : Int) := by omega
      have k1 : (k : Int) < d.seen.length := by omega
      generalize d.seen.getD k ⟨#[]⟩ = t at *
      generalize rl d = L at *
      clear h hc e2 hdn hdn' ha
      go_enter Try.func53, Try.ntmps53
      go_wp2
      all_goals (go_ret2; exact ⟨rfl, rfl⟩)
  · have e2 : d.read a = (⟨#[]⟩, 1) := by unfold SD.read; rw [if_neg ha]
    rw [e2]
    clear h e2
    by_cases hneg : a < 0
    · have e1 : decide (a < 0) = true := by simpa using hneg
      go_enter Try.func53, Try.ntmps53
      go_wp2
      all_goals (go_ret2; exact ⟨rfl, rfl⟩)
    · have e1 : decide (a < 0) = false := by simpa using hneg
      have e3 : decide ((d.seen.length : Int) ≤ a) = true := by simp; unfold SD.n at ha; omega
      go_enter Try.func53, Try.ntmps53
      go_wp2
      all_goals (go_ret2; exact ⟨rfl, rfl⟩)

/-- The head's last cell is written anew. -/
theorem RefAt.left {W : World} {b : Nat} {F : Nat → FR} {d : SD} (h : RefAt W b F d) (d' : SD) (h1 : d'.seen = d.seen) (h2 : d'.safe = d.safe) (h3 : d'.loose = d.loose) (ok : d'.ok) (v : Int) (hv : v = rl d') :
    RefAt (W.setCell ⟨b, 4, none⟩ (.int .i64 v)) b F d' ∧ Goes (rown b F) W (W.setCell ⟨b, 4, none⟩ (.int .i64 v)) (rown b F) := by
  have r := h.rs.set (.inl (.inl rfl)) 4 (.int .i64 v)
  refine ⟨RefAt.of r d' ?_ ?_ ?_ ?_ ?_ ok, r.goes⟩
  · unfold rhead; rw [h1, h2, h3, hv]; rfl
  · show d.seen.map _ = d'.seen.map _; rw [h1]
  · show d.safe.map _ = d'.safe.map _; rw [h2]
  · show d.loose.map _ = d'.loose.map _; rw [h3]
  · show d.loose.map _ = d'.loose.map _; rw [h3]

set_option maxHeartbeats 1000000 in
theorem ref_fuse (w : World) (b : Nat) (F : Nat → FR) (d : SD) (h : RefAt w b F d) (n : Int) (hn : n ≤ 9223372036854775807) : Calls Try.prog 56 #[.pointer (some ⟨b, 0, none⟩), .int .i64 n] w fun e w' =>
    e = .returned (.tuple #[]) ∧ RefAt w' b F (d.fuse n) ∧ Goes (rown b F) w w' (rown b F) := by
  have c4 := h.c4
  have f4 := h.rs.fz 4
  by_cases h0 : n < 0
  · have R1 := h.left (d.fuse n) rfl rfl rfl (fuse_ok h.ok n hn) (-1) (by unfold rl SD.fuse; simp; omega)
    have e1 : decide (n < 0) = true := by simpa using h0
    have e2 : (w.setCell ⟨b, 4, none⟩ (.int .i64 n)).setCell ⟨b, 4, none⟩ (.int .i64 (-1)) = w.setCell ⟨b, 4, none⟩ (.int .i64 (-1)) := by
      rw [setCell_eq_setRow w b 4 _ _ _ (.int .i64 n) h.rs.head, setCell_eq_setRow _ b 4 _ _ _ (.int .i64 (-1)) (setRow_heap w _ _ _ _ _ h.rs.head), setRow_setRow, setCell_eq_setRow w b 4 _ _ _ (.int .i64 (-1)) h.rs.head]
      rfl
    have R2 := hid R1
    have E2 := hid e2
    clear h R1 e2
    go_enter Try.func56, Try.ntmps56
    go_wp2
    all_goals (go_end0; refine ⟨rfl, ?_⟩; first | exact R2.out | (rw [E2.out]; exact R2.out))
  · have R1 := h.left (d.fuse n) rfl rfl rfl (fuse_ok h.ok n hn) n (by unfold rl SD.fuse; simp; omega)
    have e1 : decide (n < 0) = false := by simpa using h0
    have R2 := hid R1
    clear h R1
    go_enter Try.func56, Try.ntmps56
    go_wp2
    all_goals (go_end0; exact ⟨rfl, R2.out⟩)

/-! ### slices.Clone at texts -/
theorem wpList_append_far {P : Program} {w : World} {ops : Array Oper} {rest : List Oper} {o : Oper} {a : Act} {Q : Exit → Act → World → Prop} (hgd : o.guard = none) (s x : Operand) (t : TypeId)
    (ho : o.op = .call { callee := .builtin .append, args := #[s, x], argTypes := #[t, t] })
    (base : Nat) (e : TypeId) (i : TypeInfo) (z : Value) (size bytes : Nat) (ht : P.underlying t = some (.slice e)) (hi : P.info? e = some i) (hz : i.zero = some z)
    (hsize : i.size = size) (hby : i.bytes = bytes) (hzs : z.cells.size = size) (hsz : 0 < size)
    (v : Value) (n : Nat) (xs : List Value) (hs : a.eval s = v) (hown : w.ownsRow base e size v n xs)
    (ad : Addr) (m c : Nat) (news : List Value) (hx : a.eval x = .slice (some ad) m c) (hl : news.length = m * size) (hnews : ∀ j u, news[j]? = some u → w.cell? (ad.add j) = some u) (h1 : ∀ u ∈ news, u.oneCell' = true)
    (hm : 0 < m) (h63 : n + m ≤ maxLen) (hbytes : ((n + m) + (n + m) / 4 + 192) * bytes ≤ 281474976710656) (hbase : base ≤ w.heap.size)
    (h : ∀ g cap w', w'.ownsRow base e size (.slice (some ⟨g, 0, none⟩) (n + m) cap) (n + m) (xs ++ news) → w.grownBy w' v.ownBlock → (v.ownBlock = some g ∨ g = w.heap.size) → g < w'.heap.size → wpList P ops Q rest (a.put o.dst (.slice (some ⟨g, 0, none⟩) (n + m) cap)) w') : wpList P ops Q (o :: rest) a w := by
  refine wpList_plain hgd fun K hK => ?_
  obtain ⟨g, cap, w', hr, h2, h3, h4, h5⟩ := run_append_far (P := P) w base t o.type e i z size bytes ht hi hz hsize hby hzs hsz v n xs hown ad m c news hl hnews h1 hm h63 hbytes hbase
  unfold Oper.wp execOp
  simp only [ho, resolve, invoke, builtin, Sem.run_bind, Sem.run_pure, Result.andThen_ok, List.map_toArray, List.map_cons, List.map_nil, hs, hx, hr]
  exact hK _ _ (h g cap w' h2 h3 h4 h5)

set_option maxHeartbeats 1000000 in
theorem clone_texts (w : World) (g c : Nat) (xs : List Value) (hpos : 0 < xs.length) (hsm : xs.length ≤ 256) (hc : ∀ j v, xs[j]? = some v → w.cell? ⟨g, j, none⟩ = some v) (hg : g < w.heap.size) (h1 : ∀ u ∈ xs, u.oneCell' = true) :
    Calls Try.prog 73 #[.slice (some ⟨g, 0, none⟩) xs.length c] w fun e w' => ∃ g' c', e = .returned (.slice (some ⟨g', 0, none⟩) xs.length c') ∧ w'.ownsRow 0 9 1 (.slice (some ⟨g', 0, none⟩) xs.length c') xs.length xs ∧ w.heap.size ≤ g' ∧ Below w.heap.size w w' := by
  obtain ⟨i0, hi, hz0, hz1, hz2⟩ := info_parts tx_info'
  have I1 := hid hi
  have I2 := hid hz0
  have I3 := hid hz1
  have I4 := hid hz2
  have OW : Hid ((w.alloc (.cells #[] 9)).ownsRow 0 9 1 (.slice (some ⟨w.heap.size, 0, none⟩) 0 0) 0 []) := World.ownsRow_made w #[] 0 (Nat.zero_le _) (Nat.zero_le _) (by simp)
  have NW : Hid (∀ j u, xs[j]? = some u → (w.alloc (.cells #[] 9)).cell? ((⟨g, 0, none⟩ : Addr).add j) = some u) := fun j u hu => by
    rw [Addr.add_mid, Nat.zero_add, World.cell?_alloc_past _ _ _ hg]
    exact hc j u hu
  have H1 := hid h1
  have BL : Hid (∀ w', (w.alloc (.cells #[] 9)).grownBy w' (some w.heap.size) → Below w.heap.size w w') := fun w' hgr => ((Below.refl _ w).alloc (Nat.le_refl _) _).grown hgr (by simp) (fun k e => by injection e with e; omega)
  have qn : ∀ W : World, (binOp .eql 54 (.slice (some ⟨g, 0, none⟩) xs.length c) (.slice none 0 0)).run Try.prog W = .ok (.bool false) W := fun W => Lib.run_eql_slice_nil W _ _ (some ⟨g, 0, none⟩) xs.length c 0 0 Try.underlying54
  clear hi hz0 hz1 hz2 hc h1
  go_enter Try.func73, Try.ntmps73
  go_wp2_with (at_builtin; refine wpList_append_far rfl _ _ 54 rfl 0 9 i0 (.string ⟨#[]⟩) 1 16 Try.underlying54 I1.out I2.out I3.out I4.out rfl (by omega) _ 0 [] rfl OW.out ⟨g, 0, none⟩ xs.length c xs rfl (by omega) NW.out H1.out (by omega) (by unfold maxLen; omega) (by omega) (Nat.zero_le _) ?_; intro g' c' w' a1 a2 a3 a4)
  go_ret
  refine ⟨g', c', by simp, by simpa using a1, ?_, BL.out w' a2⟩
  rcases a3 with e | e
  · have e' : (some w.heap.size : Option Nat) = some g' := e
    injection e' with e'
    omega
  · rw [e]; simp

end Go.Proofs.Ythfpinjegfgeiaa
