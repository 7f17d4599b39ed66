/-
  quirkeep.WalBack, the statement: for every list of texts the call returns true, and all read as before. No condition but the row's own reach.
-/
import Derived.Test.YthfpinjegfgeiafWalBack
import Derived.Test.YthfpinjegfgeiafRows
import Derived.Deep.Strs
import Derived.WalkKit
import Derived.ProofKit
import Derived.OpenShut
import Derived.ChangeOld
import Derived.SizedLaws
import Derived.Below
import Derived.Carry
namespace Go.Proofs.Ythfpinjegfgeiaf
namespace walBack
open Go.ChangeShapes Go.WideShapes Go.ChangeAt Go.RowKit Go.Deep

theorem own : ownKnob Try.prog.godebug = none := by kernel_rfl
theorem cellsS : Try.prog.cellsOf 9 = 1 := by kernel_rfl
theorem bytesS : Try.prog.bytesOf 9 = 16 := by kernel_rfl

theorem plain_cell {w : World} {a : Addr} {v : Value} (h : w.cell? a = some v) : a = ⟨a.block, a.off, none⟩ := by
  obtain ⟨b, o, s⟩ := a
  cases s with
  | none => rfl
  | some x =>
    unfold World.cell? at h
    split at h <;> simp at h

theorem texts_open {H : Type} {enc : TypeId × Value → H} {W : World} {n : Nat} {cs : List Value} {x : DataW H × List MemPlace} (h : DataW.trod enc Try.prog W 0 (fun _ => true) true n 40 cs = some x) :
    ∃ da X dc, cs = [.slice da (List.length X) dc] ∧ SlAt W da X ∧ (X = [] ∨ ∃ elems spare, x.1 = .slice elems spare ∧ elems.length = List.length X) := by
  rcases open_strs Try.underlying40 Try.underlying9 cellsS h with ⟨rfl, _⟩ | ⟨a, len, cap, m, S, rfl, _, hl, _, hm, hx, hc⟩
  · exact ⟨none, [], 0, rfl, fun j t hj => by simp at hj, .inl rfl⟩
  · simp only [if_true] at hm
    refine ⟨some a, (List.range len).map S, cap, by simp, fun j t hj => ?_, .inr ⟨_, _, by rw [hx], by simp⟩⟩
    rw [List.getElem?_map] at hj
    cases hr : (List.range len)[j]? with
    | none => rw [hr] at hj; cases hj
    | some k =>
      rw [hr] at hj
      obtain ⟨h1, h2⟩ := List.getElem?_eq_some_iff.1 hr
      simp at h1 h2
      subst h2
      simp at hj
      subst hj
      have h0 := (hc 0 (by omega)).1
      have ea := plain_cell (by simpa [Addr.add] using h0)
      have hcj := (hc j (by omega)).1
      rw [ea, Addr.add_mid] at hcj
      exact ⟨a.block, a.off, by rw [← ea], hcj⟩

set_option maxRecDepth 100000 in
theorem lifted (os : Os) (started : os.Started) (H : Type) (enc : TypeId × Value → H) :
    ReturnsInHanded {} Try.checked os 6 .any (Rows.walBackSpec.pre6 enc Try.prog Try.f6 Rows.walBackRow.domain false) (Rows.walBackSpec.post enc Try.prog Try.f6 false true false false) := by
  refine returnsInHanded_of_change_sized (C := Try.checked) own started (by kernel_rfl) Try.func6
    (ChangeSpec.witness6 (enc := enc) (C := Try.checked) false ⟨#[], #[.slice none 0 0], []⟩ 8 (by kernel_rfl) (by kernel_rfl) (by kernel_rfl) (by kernel_rfl)) ?_
  intro W base args ds gs before hval0 hW hcnd hsz0 _
  have hval : ∀ (j : Nat) t v, Try.f6.params[j]? = some t → args[j]? = some v → Value.okWide Try.prog W .any base t v := hval0
  have hsz : (DataW.weightsEach Try.prog (Try.f6.params.toList ++ Rows.walBackSpec.plain.varTypes Try.prog) (ds ++ gs)).all (· ≤ reachBytes) = true := hsz0
  have hW' := hW
  obtain ⟨p, q, hA0, hV, rfl, hfz, hnd⟩ := hW
  have hA : DataW.TrodAll enc Try.prog W 0 (fun _ => true) true Try.f6.params.toList args.toList ds p := hA0
  rw [Try.params6] at hA hval hsz
  obtain ⟨v0, vs0, d0, ds0, p0, q0, hargs, rfl, rfl, h0, r0⟩ := trodAll_cons hA
  obtain ⟨rfl, rfl, rfl⟩ := trodAll_nil r0
  obtain rfl : args = #[v0] := by cases args; simp_all
  obtain ⟨rfl, rfl⟩ := trodVars_none hV
  obtain ⟨a0, len0, cap0, rfl⟩ := okWide_slice Try.underlying40 (hval 0 40 v0 rfl rfl)
  have hlt : ∀ x ∈ p0 ++ [] ++ [], x.block < W.heap.size := fun x hx => by simpa using hW'.lt x hx
  obtain ⟨n0, t0⟩ := id h0
  obtain ⟨da, X, dc, e0, hX, hsl⟩ := texts_open t0
  simp only [Value.cells, List.cons.injEq, and_true] at e0
  injection e0 with e01 e02 e03
  subst e01; subst e02; subst e03
  have hn : X.length ≤ 140737488355328 := by
    rcases hsl with rfl | ⟨elems, spare, hd, hl⟩
    · simp
    · have h := sized_slice hsz (j := 0) (t := 40) (e := 9) (elems := elems) (spare := spare) rfl (by rw [← hd]; rfl) Try.underlying40
      rw [bytesS, hl] at h
      simp only [reachBytes] at h
      omega
  clear hA0 hval0 hsz hsz0
  refine (back_walk W a0 cap0 X hX hn).mono fun e W' ⟨he, bel⟩ => ?_
  subst he
  exact ⟨_, rfl, _, _, _, _, _, [], hW', trodAll_mk1 (shut_bool Try.underlying4 _), (trodAll_cons_mk (Below.trod (by kernel_rfl) (by kernel_rfl) (of_decide_eq_true (by kernel_rfl)) h0 bel (fun x hx => hlt x (by simp [hx]))) trodAll_mk0), rfl, bel.frame _, fun h => by cases h⟩

theorem holds : Rows.WalBackSaid :=
  OpenClaim.holds_of_wide 6 Try.f6 rfl rfl rfl rfl rfl rfl rfl ⟨rfl, rfl, rfl, rfl, rfl⟩ rfl rfl rfl rfl rfl (by kernel_rfl) Try.func6 (by kernel_rfl)
    (of_decide_eq_true (by kernel_rfl)) (by unfold Func.isWrapper; first | (rw [if_pos (by decide +kernel)]; kernel_rfl) | (rw [if_neg (by decide +kernel)]; exact ⟨rfl, rfl⟩))
    (fun os started H enc _ => lifted os started H enc)
end walBack

theorem walBack_holds : Rows.WalBackSaid := walBack.holds
#print axioms walBack_holds
end Go.Proofs.Ythfpinjegfgeiaf
