/- quirkeep.stays at locks, walked: of a row that is as it was, and so what lies behind it, it answers true. Conditions: how many locks there are. -/
import Derived.Test.YtjoaedkgjnchoanLockAmple
import Derived.Test.YtjoaedkgjnchoanLockEq
namespace Go.Proofs.Ytjoaedkgjnchoan.PLock
open Go Go.RowKit PPool
set_option maxRecDepth 100000

theorem Amp.front {w : World} {base g cp : Nat} {X : List Lk.Lo} {y z : Lk.Lo} (h : OwnLk w base (.slice (some ⟨g, 0, none⟩) (X.length + 2) cp) (X ++ [y, z])) : LkAt w (some ⟨g, 0, none⟩) X ∧ X.length + 2 ≤ cp ∧ g < w.heap.size ∧ base ≤ g := by
  have hl : (X ++ [y, z]).length = X.length + 2 := by simp
  have h2 := h.cut X.length (by omega) (by omega)
  rw [List.take_left] at h2
  obtain ⟨a, c, e, hp, _⟩ := h2.at_
  injection e with e _ _
  subst e
  obtain ⟨_, c', e', _, _, h3, _⟩ := h.at_
  injection e' with _ _ e'
  have := h.lt g rfl
  exact ⟨hp, by omega, this.2, this.1⟩
theorem Amp.back {w : World} {base g cp : Nat} {X : List Lk.Lo} {y z : Lk.Lo} (h : OwnLk w base (.slice (some ⟨g, 0, none⟩) (X.length + 2) cp) (X ++ [y, z])) :
    w.cell? ⟨g, X.length * 2, none⟩ = some (.int .i64 y.x) ∧ w.cell? ⟨g, X.length * 2 + 1, none⟩ = some (.int .i64 y.m) ∧ w.cell? ⟨g, (X.length + 1) * 2, none⟩ = some (.int .i64 z.x) ∧ w.cell? ⟨g, (X.length + 1) * 2 + 1, none⟩ = some (.int .i64 z.m) := by
  have h1 : (X ++ [y, z])[X.length]? = some y := by simp
  have h2 : (X ++ [y, z])[X.length + 1]? = some z := by rw [List.getElem?_append_right (by omega)]; simp
  exact ⟨(h.cells h1).1, (h.cells h1).2, (h.cells h2).1, (h.cells h2).2⟩

set_option maxHeartbeats 4000000 in
theorem stays_any (w : World) (base g cp : Nat) (a : Option Addr) (c : Nat) (X : List Lk.Lo) (u t : Int) (h : OwnLk w base (.slice (some ⟨g, 0, none⟩) (X.length + 2) cp) (X ++ [⟨u, t⟩, ⟨u, t⟩])) (h2 : LkAt w a X) (hn : X.length * 16 ≤ 140737488351232) :
    Calls Try.prog 27 #[.slice (some ⟨g, 0, none⟩) X.length cp, .slice a X.length c, .agg #[.int .i64 u, .int .i64 t]] w fun e w' => e = .returned (.bool true) ∧ Below w.heap.size w w' := by
  obtain ⟨hf, hcp, hg, _⟩ := Amp.front h
  have KE := hid fun W (hW1 : LkAt W (some ⟨g, 0, none⟩) X) (hW2 : LkAt W a X) => equal_any W (some ⟨g, 0, none⟩) a cp c X X hW1 hW2 (by omega) (by omega)
  rw [decide_eq_true rfl] at KE
  have HO := hid h
  have HF := hid hf
  have H2 := hid h2
  have hq := block_eq u u t t
  simp only [beq_self_eq_true, Bool.and_self] at hq
  have n0 : (0 : Int) ≤ (X.length : Int) := by omega
  have n1 : (X.length : Int) ≤ 8796093021952 := by omega
  have n2 : (X.length : Int) + 2 ≤ (cp : Int) := by omega
  have n3 : (X.length : Int) < (X.length : Int) + 2 := by omega
  have n4 : (X.length : Int) + 1 < (X.length : Int) + 2 := by omega
  have n6 : (0 : Int) ≤ (X.length : Int) + 1 := by omega
  have n5 : IntKind.i64.wrap ((X.length : Int) + 1) = (X.length : Int) + 1 := IntWalk.i64_in _ ⟨by omega, by omega⟩
  clear h h2 hf hn
  go_enter Try.func27, Try.ntmps27
  go_wp2_with fail
  have hCells := hid fun W1 (hb : Below (w.alloc (.cells #[.int .i64 u, .int .i64 t] 62)).heap.size (w.alloc (.cells #[.int .i64 u, .int .i64 t] 62)) W1) => (⟨(box2 hb).1, (box2 hb).2, Amp.back (HO.out.below (below_tr (bx _ _) hb))⟩ :
    W1.cell? ⟨w.heap.size, 0, none⟩ = some (.int .i64 u) ∧ W1.cell? ⟨w.heap.size, 1, none⟩ = some (.int .i64 t) ∧ W1.cell? ⟨g, X.length * 2, none⟩ = some (.int .i64 u) ∧ W1.cell? ⟨g, X.length * 2 + 1, none⟩ = some (.int .i64 t) ∧ W1.cell? ⟨g, (X.length + 1) * 2, none⟩ = some (.int .i64 u) ∧ W1.cell? ⟨g, (X.length + 1) * 2 + 1, none⟩ = some (.int .i64 t))
  have c00 := hCells.out _ (Below.refl _ _).drew
  go_region_held3 (fun W => W.cell? ⟨w.heap.size, 0, none⟩ = some (.int .i64 u) ∧ W.cell? ⟨w.heap.size, 1, none⟩ = some (.int .i64 t) ∧ W.cell? ⟨g, X.length * 2, none⟩ = some (.int .i64 u) ∧ W.cell? ⟨g, X.length * 2 + 1, none⟩ = some (.int .i64 t) ∧ W.cell? ⟨g, (X.length + 1) * 2, none⟩ = some (.int .i64 u) ∧ W.cell? ⟨g, (X.length + 1) * 2 + 1, none⟩ = some (.int .i64 t))
    (first | assumption | exact c00 | (go_split_ands; exact ⟨by assumption, by assumption, by assumption, by assumption, by assumption, by assumption⟩))
    ((go_at_call 55; refine (KE.out _ (HF.out.below (bx _ _)).drew (H2.out.below (bx _ _)).drew).mono ?_; rintro r w3 ⟨rfl, hb3⟩; have B3 := hid (drew_below hb3); have m9 := hCells.out _ B3.out; clear hb3))
  go_wp2_with fail
  go_ret
  exact ⟨rfl, below_tr (bx _ _) B3.out⟩

end Go.Proofs.Ytjoaedkgjnchoan.PLock
