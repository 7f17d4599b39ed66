/- lock.Fits and Join, walked: each answers what the plain words say; the world stays as it is. No conditions. -/
import Derived.Test.YtjoaedkgjnchoacLockMd
namespace Go.Proofs.Ytjoaedkgjnchoac.PLock
open Go Go.RowKit
set_option maxRecDepth 100000

/-- What Fits and Join answer. -/
def errM (a b : Int) : Int := if Lk.mode a = true ∧ Lk.mode b = true then 0 else 1
def fitV (a b : Int) : Bool := Lk.mode a && Lk.mode b && Lk.fit a b
def joinV (a b : Int) : Int := if Lk.mode a = true ∧ Lk.mode b = true then Lk.join a b else 0
theorem fits_any (w : World) (a b : Int) : Calls Try.prog 6 #[.int .i64 a, .int .i64 b] w fun e w' => e = .returned (.tuple #[.bool (fitV a b), .int .i64 (errM a b)]) ∧ w' = w := by
  obtain ⟨Y, hY⟩ : ∃ Y, Y = fitV a b := ⟨_, rfl⟩
  obtain ⟨E, hE⟩ : ∃ E, E = errM a b := ⟨_, rfl⟩
  rw [← hY, ← hE]
  unfold fitV at hY
  unfold errM at hE
  have KA := hid (isMode0_any w a)
  have KB := hid (isMode0_any w b)
  have KF := hid (fit0_any w a b)
  generalize Lk.mode a = ma at *
  generalize Lk.mode b = mb at *
  generalize Lk.fit a b = f at *
  cases ma with
  | false =>
    have HY : Hid (Y = false ∧ E = 1) := ⟨hY, hE⟩
    clear hY hE
    go_enter Try.func6, Try.ntmps6
    go_wp2_with fail
    refine KA.out.mono ?_
    rintro r w1 ⟨rfl, rfl⟩
    go_wp2_with fail
    go_ret2
    exact ⟨by rw [HY.out.1, HY.out.2]; rfl, rfl⟩
  | true =>
    cases mb with
    | false =>
      have HY : Hid (Y = false ∧ E = 1) := ⟨hY, hE⟩
      clear hY hE
      go_enter Try.func6, Try.ntmps6
      go_wp2_with fail
      refine KA.out.mono ?_
      rintro r w1 ⟨rfl, rfl⟩
      go_wp2_with fail
      refine KB.out.mono ?_
      rintro r w1 ⟨rfl, rfl⟩
      go_wp2_with fail
      go_ret2
      exact ⟨by rw [HY.out.1, HY.out.2]; rfl, rfl⟩
    | true =>
      have HY : Hid (Y = f ∧ E = 0) := ⟨by rw [hY]; rfl, hE⟩
      clear hY hE
      go_enter Try.func6, Try.ntmps6
      go_wp2_with fail
      refine KA.out.mono ?_
      rintro r w1 ⟨rfl, rfl⟩
      go_wp2_with fail
      refine KB.out.mono ?_
      rintro r w1 ⟨rfl, rfl⟩
      go_wp2_with fail
      refine KF.out.mono ?_
      rintro r w1 ⟨rfl, rfl⟩
      go_wp2_with fail
      go_ret2
      exact ⟨by rw [HY.out.1, HY.out.2]; rfl, rfl⟩
theorem join2_any (w : World) (a b : Int) : Calls Try.prog 7 #[.int .i64 a, .int .i64 b] w fun e w' => e = .returned (.tuple #[.int .i64 (joinV a b), .int .i64 (errM a b)]) ∧ w' = w := by
  obtain ⟨Y, hY⟩ : ∃ Y, Y = joinV a b := ⟨_, rfl⟩
  obtain ⟨E, hE⟩ : ∃ E, E = errM a b := ⟨_, rfl⟩
  rw [← hY, ← hE]
  unfold joinV at hY
  unfold errM at hE
  have KA := hid (isMode0_any w a)
  have KB := hid (isMode0_any w b)
  have KF := hid (join0_any w a b)
  generalize Lk.mode a = ma at *
  generalize Lk.mode b = mb at *
  generalize Lk.join a b = f at *
  cases ma with
  | false =>
    have HY : Hid (Y = 0 ∧ E = 1) := ⟨hY, hE⟩
    clear hY hE
    go_enter Try.func7, Try.ntmps7
    go_wp2_with fail
    refine KA.out.mono ?_
    rintro r w1 ⟨rfl, rfl⟩
    go_wp2_with fail
    go_ret2
    exact ⟨by rw [HY.out.1, HY.out.2]; rfl, rfl⟩
  | true =>
    cases mb with
    | false =>
      have HY : Hid (Y = 0 ∧ E = 1) := ⟨hY, hE⟩
      clear hY hE
      go_enter Try.func7, Try.ntmps7
      go_wp2_with fail
      refine KA.out.mono ?_
      rintro r w1 ⟨rfl, rfl⟩
      go_wp2_with fail
      refine KB.out.mono ?_
      rintro r w1 ⟨rfl, rfl⟩
      go_wp2_with fail
      go_ret2
      exact ⟨by rw [HY.out.1, HY.out.2]; rfl, rfl⟩
    | true =>
      have HY : Hid (Y = f ∧ E = 0) := ⟨by rw [hY]; rfl, hE⟩
      clear hY hE
      go_enter Try.func7, Try.ntmps7
      go_wp2_with fail
      refine KA.out.mono ?_
      rintro r w1 ⟨rfl, rfl⟩
      go_wp2_with fail
      refine KB.out.mono ?_
      rintro r w1 ⟨rfl, rfl⟩
      go_wp2_with fail
      refine KF.out.mono ?_
      rintro r w1 ⟨rfl, rfl⟩
      go_wp2_with fail
      go_ret2
      exact ⟨by rw [HY.out.1, HY.out.2]; rfl, rfl⟩
end Go.Proofs.Ytjoaedkgjnchoac.PLock
