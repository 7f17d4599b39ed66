/- What asking and dropping without a fault leaves is right: in plain words. No condition. -/
import Derived.Test.YtjoaedkgjnchoacLockAk
namespace Go.Proofs.Ytjoaedkgjnchoac.PLock
open Go Go.RowKit PPool
theorem ask_zero {T : List Lk.It} {t i m : Int} (h : askE T t i m = 0) : Lk.check T = 0 ∧ (0 ≤ i ∧ i < 20) ∧ Lk.good1 ⟨t, m⟩ ∧ Lk.inQ T t = false := by
  unfold askE at h
  split at h
  · rename_i h1; exact absurd h h1
  · rename_i h1
    have h1 : Lk.check T = 0 := Classical.not_not.1 h1
    split at h
    · cases h
    · rename_i h2
      split at h
      · cases h
      · rename_i h3
        have h2 : (Lk.tx t && Lk.item i && Lk.mode m) = true := by
          cases e : (Lk.tx t && Lk.item i && Lk.mode m) with
          | true => rfl
          | false => exact absurd e h2
        rw [Bool.and_eq_true, Bool.and_eq_true] at h2
        have ht := Lk.tx_iff.1 h2.1.1
        have hi := Lk.item_iff.1 h2.1.2
        exact ⟨h1, hi, ⟨ht.1, ht.2, h2.2⟩, by cases e : Lk.inQ T t with | false => rfl | true => exact absurd e h3⟩
theorem askV_good {T : List Lk.It} {t i m : Int} (h : askE T t i m = 0) : Lk.Good (askV T t i m) := by
  obtain ⟨h1, h2, h3, h4⟩ := ask_zero h
  unfold askV
  rw [if_pos h]
  exact Lk.askT_good (Lk.check_zero.1 h1) h2 h3 h4
theorem drop_zero {T : List Lk.It} {t : Int} (h : dropE T t = 0) : Lk.check T = 0 ∧ 0 ≤ t ∧ t < 12 := by
  unfold dropE at h
  split at h
  · rename_i h1; exact absurd h h1
  · rename_i h1
    split at h
    · rename_i h2
      exact ⟨Classical.not_not.1 h1, Lk.tx_iff.1 h2⟩
    · cases h
theorem dropV_good {T : List Lk.It} {t : Int} (h : dropE T t = 0) : Lk.Good (dropV T t) := by
  unfold dropV
  rw [if_pos h]
  exact Lk.dropT_good (Lk.check_zero.1 (drop_zero h).1) t
end Go.Proofs.Ytjoaedkgjnchoac.PLock
