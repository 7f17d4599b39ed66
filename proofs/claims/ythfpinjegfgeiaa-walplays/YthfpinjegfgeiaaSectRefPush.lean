/- The document's own disk: what Write's last statement is given. -/
import Derived.Test.YthfpinjegfgeiaaSectRefCrash
import Derived.Test.YthfpinjegfgeiaaSectPhase
import Derived.Deep.RegionLaw
import Derived.Laws.Concat
namespace Go.Proofs.Ythfpinjegfgeiaa
open Go Go.RowKit
set_option maxRecDepth 100000

/-- A sector that is seen is written. -/
theorem RefAt.putSeen {W : World} {b : Nat} {F : Nat → FR} {d : SD} (h : RefAt W b F d) (g : Nat) (hg : (F 0).a = some ⟨g, 0, none⟩) (k : Nat) (hk : k < d.n) (x : ByteArray) (hx : x.size = 64) :
    RefAt (W.setCell ⟨g, k, none⟩ (.string x)) b F { d with seen := d.seen.set k x } ∧ Goes (rown b F) W (W.setCell ⟨g, k, none⟩ (.string x)) (rown b F) := by
  have r := h.rs.put 0 (by omega) (fun k hk => .inl (.inr ⟨0, by omega, hk⟩)) k (by show k < (d.seen.map Value.string).length; rw [List.length_map]; exact hk) (.string x) g hg
  have en : SD.n { d with seen := d.seen.set k x } = d.n := by simp [SD.n]
  refine ⟨RefAt.of r { d with seen := d.seen.set k x } ?_ ?_ rfl rfl rfl ⟨by rw [en]; exact h.ok.len, by rw [en]; exact h.ok.small, h.ok.safe64, ?_, by rw [en]; exact h.ok.loose64, h.ok.left0, h.ok.leftM⟩, r.goes⟩
  · unfold rhead
    simp only [List.length_set]
    rfl
  · show (d.seen.map Value.string).set k (.string x) = (d.seen.set k x).map Value.string
    rw [List.map_set]
  · intro y hy
    rcases List.mem_or_eq_of_mem_set hy with hy | rfl
    · exact h.ok.seen64 y hy
    · exact hx

theorem news_one {W : World} {n : Nat} {v : Value} {t : TypeId} (h : W.heap[n]? = some (.cells #[v] t (0, 0))) : ∀ j u, [v][j]? = some u → W.cell? ((⟨n, 0, none⟩ : Addr).add j) = some u := fun j u hj => by
  match j, hj with
  | 0, hj =>
    simp at hj
    subst hj
    rw [Addr.add_mid, cell_of_row W n _ _ t _ h]
    rfl

/-- Both lists go on by one, and the head is written. -/
theorem RefAt.pushed {w0 W : World} {b : Nat} {F : Nat → FR} {d : SD} {f2 f3 : FR} (x : Nat × ByteArray) (hx : x.1 < d.n ∧ x.2.size = 64) (ok : d.ok)
    (h : RS (rown b F) w0 W b (rhead d F) (updF (updF F 2 f2) 3 f3) (updX (updX (XS d) 2 (XS d 2 ++ [.int .i64 (x.1 : Int)])) 3 (XS d 3 ++ [.string x.2]))) :
    RefAt ((W.setCell ⟨b, 2, none⟩ (.slice f2.a (d.loose.length + 1) f2.c)).setCell ⟨b, 3, none⟩ (.slice f3.a (d.loose.length + 1) f3.c)) b (updF (updF F 2 f2) 3 f3) { d with loose := d.loose ++ [x] } ∧
      Goes (rown b F) w0 ((W.setCell ⟨b, 2, none⟩ (.slice f2.a (d.loose.length + 1) f2.c)).setCell ⟨b, 3, none⟩ (.slice f3.a (d.loose.length + 1) f3.c)) (rown b (updF (updF F 2 f2) 3 f3)) := by
  have r := (h.set (.inl (.inl rfl)) 2 (.slice f2.a (d.loose.length + 1) f2.c)).set (.inl (.inl rfl)) 3 (.slice f3.a (d.loose.length + 1) f3.c)
  refine ⟨RefAt.of r { d with loose := d.loose ++ [x] } ?_ rfl rfl ?_ ?_ ⟨ok.len, ok.small, ok.safe64, ok.seen64, ?_, ok.left0, ok.leftM⟩, r.goes⟩
  · unfold rhead
    simp only [List.length_append, List.length_cons, List.length_nil]
    rfl
  · show (d.loose.map _) ++ [_] = (d.loose ++ [x]).map _
    simp
  · show (d.loose.map _) ++ [_] = (d.loose ++ [x]).map _
    simp
  · intro y hy
    rcases List.mem_append.1 hy with hy | hy
    · exact ok.loose64 y hy
    · rw [List.mem_singleton.1 hy]; exact hx

/-- What the last statement of Write is given. -/
structure Help (w w3 : World) (b : Nat) (F : Nat → FR) (d1 : SD) (k : Nat) (s : ByteArray) (g : Nat) (t : ByteArray) : Prop where
  r0 : RS (rown b F) w3 w3.drew b (rhead { d1 with seen := d1.seen.set k s } F) F (XS { d1 with seen := d1.seen.set k s })
  sr : ∀ W F' X', RS (rown b F) w3 W b (rhead { d1 with seen := d1.seen.set k s } F) F' X' → F' 0 = F 0 → X' 0 = XS { d1 with seen := d1.seen.set k s } 0 →
      W.cell? ⟨b, 0, none⟩ = some (.slice (some ⟨g, 0, none⟩) d1.seen.length (F 0).c) ∧ W.cell? ⟨b, 2, none⟩ = some (.slice (F 2).a d1.loose.length (F 2).c) ∧ W.cell? ⟨b, 3, none⟩ = some (.slice (F 3).a d1.loose.length (F 3).c) ∧ W.cell? ⟨g, k, none⟩ = some (.string s)
  o2 : ∀ W F' X', RS (rown b F) w3 W b (rhead { d1 with seen := d1.seen.set k s } F) F' X' → F' 2 = F 2 → X' 2 = XS { d1 with seen := d1.seen.set k s } 2 → W.ownsRow 0 3 1 (.slice (F 2).a d1.loose.length (F 2).c) d1.loose.length (d1.loose.map fun x => .int .i64 (x.1 : Int))
  o3 : ∀ W F' X', RS (rown b F) w3 W b (rhead { d1 with seen := d1.seen.set k s } F) F' X' → F' 3 = F 3 → X' 3 = XS { d1 with seen := d1.seen.set k s } 3 → W.ownsRow 0 9 1 (.slice (F 3).a d1.loose.length (F 3).c) d1.loose.length (d1.loose.map fun x => .string x.2)
  a2 : ∀ W F' X' g' cap W', RS (rown b F) w3 W b (rhead { d1 with seen := d1.seen.set k s } F) F' X' → F' 2 = F 2 → X' 2 = XS { d1 with seen := d1.seen.set k s } 2 → W'.ownsRow 0 3 1 (.slice (some ⟨g', 0, none⟩) (d1.loose.length + 1) cap) (d1.loose.length + 1) ((d1.loose.map fun x => .int .i64 (x.1 : Int)) ++ [.int .i64 (k : Int)]) →
      W.grownBy W' (Value.slice (F 2).a d1.loose.length (F 2).c).ownBlock → ((Value.slice (F 2).a d1.loose.length (F 2).c).ownBlock = some g' ∨ g' = W.heap.size) →
      RS (rown b F) w3 W' b (rhead { d1 with seen := d1.seen.set k s } F) (updF F' 2 ⟨some ⟨g', 0, none⟩, cap⟩) (updX X' 2 (XS { d1 with seen := d1.seen.set k s } 2 ++ [.int .i64 (k : Int)]))
  a3 : ∀ W F' X' g' cap W', RS (rown b F) w3 W b (rhead { d1 with seen := d1.seen.set k s } F) F' X' → F' 3 = F 3 → X' 3 = XS { d1 with seen := d1.seen.set k s } 3 → W'.ownsRow 0 9 1 (.slice (some ⟨g', 0, none⟩) (d1.loose.length + 1) cap) (d1.loose.length + 1) ((d1.loose.map fun x => .string x.2) ++ [.string s]) →
      W.grownBy W' (Value.slice (F 3).a d1.loose.length (F 3).c).ownBlock → ((Value.slice (F 3).a d1.loose.length (F 3).c).ownBlock = some g' ∨ g' = W.heap.size) →
      RS (rown b F) w3 W' b (rhead { d1 with seen := d1.seen.set k s } F) (updF F' 3 ⟨some ⟨g', 0, none⟩, cap⟩) (updX X' 3 (XS { d1 with seen := d1.seen.set k s } 3 ++ [.string s]))
  fin : ∀ W g2 c2 g3 c3, RS (rown b F) w3 W b (rhead { d1 with seen := d1.seen.set k s } F) (updF (updF F 2 ⟨some ⟨g2, 0, none⟩, c2⟩) 3 ⟨some ⟨g3, 0, none⟩, c3⟩) (updX (updX (XS { d1 with seen := d1.seen.set k s }) 2 (XS { d1 with seen := d1.seen.set k s } 2 ++ [.int .i64 (k : Int)])) 3 (XS { d1 with seen := d1.seen.set k s } 3 ++ [.string s])) →
      W.cell? ⟨b, 2, none⟩ = some (.slice (F 2).a d1.loose.length (F 2).c) ∧ W.frozen? ⟨b, 2, none⟩ = false ∧ W.cell? ⟨b, 3, none⟩ = some (.slice (F 3).a d1.loose.length (F 3).c) ∧ W.frozen? ⟨b, 3, none⟩ = false ∧
      Hid (∃ F', RefAt ((W.setCell ⟨b, 2, none⟩ (.slice (some ⟨g2, 0, none⟩) (d1.loose.length + 1) c2)).setCell ⟨b, 3, none⟩ (.slice (some ⟨g3, 0, none⟩) (d1.loose.length + 1) c3)) b F' { d1 with seen := d1.seen.set k (pad t), loose := d1.loose ++ [(k, pad t)] } ∧
        Goes (rown b F) w ((W.setCell ⟨b, 2, none⟩ (.slice (some ⟨g2, 0, none⟩) (d1.loose.length + 1) c2)).setCell ⟨b, 3, none⟩ (.slice (some ⟨g3, 0, none⟩) (d1.loose.length + 1) c3)) (rown b F'))
theorem help_any (w w3 : World) (b : Nat) (F : Nat → FR) (d1 : SD) (k : Nat) (s : ByteArray) (g : Nat) (t : ByteArray) (h3 : RefAt w3 b F { d1 with seen := d1.seen.set k s }) (g3 : Goes (rown b F) w w3 (rown b F)) (hg : (F 0).a = some ⟨g, 0, none⟩)
    (hdk : k < d1.n ∧ s.size = 64) (hpt : pad t = s) : Help w w3 b F d1 k s g t := by
  have hk2 : k < d1.seen.length := hdk.1
  have en2 : SD.n { d1 with seen := d1.seen.set k s } = d1.n := by simp [SD.n]
  refine ⟨h3.rs.drew, ?_, ?_, ?_, ?_, ?_, ?_⟩
  · intro W F' X' r hF hX
    refine ⟨?_, r.cell 2 _ rfl, r.cell 3 _ rfl, ?_⟩
    · have := r.cell 0 (.slice (F 0).a (d1.seen.set k s).length (F 0).c) rfl
      rw [List.length_set, hg] at this
      exact this
    · obtain ⟨g', hg', hc', _⟩ := r.at_ 0 (by omega) (by rw [hX]; show 0 < ((d1.seen.set k s).map Value.string).length; rw [List.length_map, List.length_set]; omega)
      have eg : g' = g := by
        rw [hF, hg] at hg'
        injection hg' with e
        injection e with e1 _ _
        exact e1.symm
      subst eg
      refine hc' k (.string s) ?_
      rw [hX]
      show ((d1.seen.set k s).map Value.string)[k]? = _
      rw [List.getElem?_map, List.getElem?_set_self (by omega)]
      rfl
  · intro W F' X' r hF hX
    have := r.own 2 (by omega)
    unfold rsl at this
    rw [hF, hX] at this
    simpa [XS, ety] using this
  · intro W F' X' r hF hX
    have := r.own 3 (by omega)
    unfold rsl at this
    rw [hF, hX] at this
    simpa [XS, ety] using this
  · intro W F' X' g' cap W' r hF hX a1 a2 a3
    have el : (X' 2).length = d1.loose.length := by rw [hX]; simp [XS]
    have := r.app (W' := W') 2 (by omega) (fun k hk => .inl (.inr ⟨2, by omega, by rw [← hF]; exact hk⟩)) (.int .i64 (k : Int)) g' cap (by rw [el, hX]; exact a1) (by unfold rsl; rw [hF, el]; exact a2) (by unfold rsl; rw [hF, el]; exact a3)
    rw [hX] at this
    exact this
  · intro W F' X' g' cap W' r hF hX a1 a2 a3
    have el : (X' 3).length = d1.loose.length := by rw [hX]; simp [XS]
    have := r.app (W' := W') 3 (by omega) (fun k hk => .inl (.inr ⟨3, by omega, by rw [← hF]; exact hk⟩)) (.string s) g' cap (by rw [el, hX]; exact a1) (by unfold rsl; rw [hF, el]; exact a2) (by unfold rsl; rw [hF, el]; exact a3)
    rw [hX] at this
    exact this
  · intro W e2 f2 e3 f3 r
    have P := RefAt.pushed (k, s) (by rw [en2]; exact hdk) h3.ok r
    refine ⟨r.cell 2 _ rfl, r.fz 2, r.cell 3 _ rfl, r.fz 3, _, by rw [hpt]; exact P.1, g3.trans P.2⟩

end Go.Proofs.Ythfpinjegfgeiaa
