/- quirref.WaitEdges, walked: of a right table it tells the edges that the plain words tell. Conditions: a right table that lies where its slice says. -/
import Derived.Test.YtjoaedkgjnchoacLockRAk
import Derived.Test.YtjoaedkgjnchoacLockIdx
import Derived.Test.YtjoaedkgjnchoacLockWts
namespace Go.Proofs.Ytjoaedkgjnchoac.PLock
open Go Go.RowKit PPool PGraph
set_option maxRecDepth 100000

/-- Does one wait for the other at an item, as the reference tells it? -/
def rw1 (x : Lk.It) (a b : Int) : Bool := if Lk.has x.q a = false ∨ a = b then false else Lk.has (x.q.take (Lk.pl x.q a)) b || (Lk.has x.h b && !Lk.fit (Lk.wish x.h ⟨a, Lk.md x.q a⟩) (Lk.md x.h b))
theorem rw1_is {x : Lk.It} (hr : Lk.Right x) (a b : Int) : rw1 x a b = Lk.waitI x a b := by
  unfold rw1
  by_cases h1 : Lk.has x.q a = false
  · rw [if_pos (.inl h1)]
    symm
    rw [Bool.eq_false_iff]
    intro h
    obtain ⟨k, l, hl, e, _⟩ := Lk.waitI_iff.1 h
    exact Lk.has_not.1 h1 l (List.mem_of_getElem? hl) e
  · have h1 : Lk.has x.q a = true := by simpa using h1
    obtain ⟨l, hl, hx, hm⟩ := Lk.pl_at h1
    have uq : ∀ k' l', x.q[k']? = some l' → l'.x = a → k' = Lk.pl x.q a := fun k' l' hk' e' => by
      have hp := List.pairwise_iff_getElem.1 hr.rq.one
      obtain ⟨g1, g2⟩ := List.getElem?_eq_some_iff.1 hl
      obtain ⟨g3, g4⟩ := List.getElem?_eq_some_iff.1 hk'
      rcases Nat.lt_trichotomy k' (Lk.pl x.q a) with hlt | e | hlt
      · exact absurd (by rw [g4, g2, e', hx]) (hp _ _ g3 g1 hlt)
      · exact e
      · exact absurd (by rw [g2, g4, hx, e']) (hp _ _ g1 g3 hlt)
    by_cases h2 : a = b
    · rw [if_pos (.inr h2)]
      symm
      rw [Bool.eq_false_iff]
      intro h
      obtain ⟨k, l', hl', e, hf⟩ := Lk.waitI_iff.1 h
      subst h2
      unfold Lk.for_ at hf
      rw [Bool.or_eq_true, decide_eq_true_eq] at hf
      rcases hf with hf | hf
      · obtain ⟨h, hh, e1, e2, _⟩ := Lk.way_iff.1 hf
        exact e2 (e1.trans e.symm)
      · obtain ⟨y, hy, ey⟩ := Lk.has_iff.1 hf
        obtain ⟨j, hj, ej⟩ := List.getElem_of_mem hy
        rw [List.length_take] at hj
        rw [List.getElem_take] at ej
        have u1 := uq j y (by rw [List.getElem?_eq_getElem (by omega), ej]) ey
        have u2 := uq k l' hl' e
        omega
    · rw [if_neg (by simp [h1, h2])]
      have hl' : l = ⟨a, Lk.md x.q a⟩ := by
        obtain ⟨lx, lm⟩ := l
        simp only at hx hm
        rw [hm, ← hx]
      rw [Bool.eq_iff_iff, Bool.or_eq_true, Bool.and_eq_true, Lk.waitI_iff]
      constructor
      · rintro (h | ⟨h, hf⟩)
        · exact ⟨_, l, hl, hx, by unfold Lk.for_; rw [h, Bool.or_true]⟩
        · refine ⟨_, l, hl, hx, ?_⟩
          unfold Lk.for_
          rw [Bool.or_eq_true, decide_eq_true_eq]
          left
          obtain ⟨y, hy, ey, em⟩ := Lk.pl_at h
          refine Lk.way_iff.2 ⟨y, List.mem_of_getElem? hy, ey, by rw [ey, hx]; exact fun e => h2 e.symm, ?_⟩
          rw [em, Lk.fit_comm, ← hl'] at hf
          simpa using hf
      · rintro ⟨k, l2, hl2, e, hf⟩
        have ek := uq k l2 hl2 e
        subst ek
        rw [hl] at hl2
        have hl2 := Option.some.inj hl2
        subst hl2
        unfold Lk.for_ at hf
        rw [Bool.or_eq_true, decide_eq_true_eq] at hf
        rcases hf with hf | hf
        · right
          obtain ⟨y, hy, e1, e2, e3⟩ := Lk.way_iff.1 hf
          have hmd := Lk.md_of hr.rh hy
          rw [e1] at hmd
          exact ⟨Lk.has_iff.2 ⟨y, hy, e1⟩, by rw [hmd, Lk.fit_comm, ← hl', e3]; rfl⟩
        · exact .inl hf
theorem wait_next {T : List Lk.It} {k : Nat} {x : Lk.It} (hx : T[k]? = some x) (a b : Int) : Lk.wait (T.take (k + 1)) a b = (Lk.wait (T.take k) a b || Lk.waitI x a b) := by
  obtain ⟨h1, h2⟩ := List.getElem?_eq_some_iff.1 hx
  unfold Lk.wait
  rw [List.take_succ_eq_append_getElem h1, List.any_append, h2]
  simp
theorem ix_has (Q : List Lk.Lo) (t : Int) : ixF (fun l => decide (l.x = t)) Q = if Lk.has Q t then (Lk.pl Q t : Int) else -1 := by
  have e : Q.findIdx (fun l => decide (l.x = t)) = Lk.pl Q t := rfl
  unfold ixF
  rw [e]
  cases hh : Lk.has Q t with
  | true =>
    have := Lk.pl_lt hh
    rw [if_neg (by omega), if_pos rfl]
  | false =>
    have : Lk.pl Q t = Q.length := by
      unfold Lk.pl
      rw [List.findIdx_eq_length]
      intro l hl
      simpa using Lk.has_not.1 hh l hl
    rw [if_pos this, if_neg (by simp)]

set_option maxHeartbeats 1000000 in
theorem rwaits1_any (w : World) (x : Lk.Lo) (pb : Nat) (t : Int) (h : w.cell? ⟨pb, 0, none⟩ = some (.int .i64 t)) :
    Calls Try.prog 36 #[.agg #[.int .i64 x.x, .int .i64 x.m], .pointer (some ⟨pb, 0, none⟩)] w fun e w' => e = .returned (.bool (decide (x.x = t))) ∧ Below w.heap.size w w' := by
  obtain ⟨xx, xm⟩ := x
  have h2 : ∀ o, (w.alloc o).cell? ⟨pb, 0, none⟩ = some (.int .i64 t) := fun o => keep1 (bx _ _) h
  have HB := hid (bx w (.cells #[.int .i64 xx, .int .i64 xm] 65))
  have e : (xx == t) = decide (xx = t) := by by_cases e : xx = t <;> simp [e]
  generalize decide (xx = t) = g at *
  clear h
  go_enter Try.func36, Try.ntmps36
  go_wp2_with fail
  go_ret
  exact ⟨rfl, HB.out⟩
end Go.Proofs.Ytjoaedkgjnchoac.PLock
