/- Rows of rows in memory: a row of one's own whose elements are rows of one's own; how they lie, what an append leaves. -/
import Derived.Test.YtbgcldckgiiedajDoorGraphSets
namespace Go.Proofs.YtbgcldckgiiedajDoor.PGraph
open Go Go.RowKit PPool
set_option maxRecDepth 100000

theorem unlike_rows {α β : Type} {enc : α → Value} {enc' : β → Value} {t t' : TypeId} (ht : t ≠ t') {w : World} {base base' : Nat} {v v' : Value} {X : List α} {Y : List β} (h : OwnR enc t w base v X) (h' : OwnR enc' t' w base' v' Y) : ∀ g, v.ownBlock = some g → v'.ownBlock = some g → False := by
  intro g hg hg'
  rcases h.2 with ⟨e1, _⟩ | ⟨g1, cap, cur, hv, _, hh, _⟩
  · rw [e1] at hg; cases hg
  · rcases h'.2 with ⟨e2, _⟩ | ⟨g2, cap2, cur2, hv2, _, hh2, _⟩
    · rw [e2] at hg'; cases hg'
    · rw [hv] at hg
      rw [hv2] at hg'
      have e1 : g1 = g := by simpa [Value.ownBlock] using hg
      have e2 : g2 = g := by simpa [Value.ownBlock] using hg'
      rw [e1] at hh
      rw [e2, hh] at hh2
      injection hh2 with hh2
      injection hh2 with _ hh2 _
      exact ht hh2
theorem rows_info : (Tryd.prog.info? 23).map (fun i => (i.zero, i.size, i.bytes)) = some (some (.slice none 0 0), 1, 24) := by kernel_rfl

/-- Rows of nodes, wherever they lie. -/
def RowsAt (w : World) (a : Option Addr) (L : List (List Nat)) : Prop := ∀ (i : Nat) (l : List Nat), L[i]? = some l → ∃ b o a' c', a = some ⟨b, o, none⟩ ∧ w.cell? ⟨b, o + i, none⟩ = some (.slice a' l.length c') ∧ NatsAt w a' l
theorem RowsAt.below {w w' : World} {a : Option Addr} {L : List (List Nat)} (h : RowsAt w a L) (hb : Below w.heap.size w w') : RowsAt w' a L := fun i l hl => by
  obtain ⟨b, o, a', c', e, h1, h2⟩ := h i l hl
  exact ⟨b, o, a', c', e, keep1 hb h1, h2.below hb⟩
theorem RowsAt.drew {w : World} {a : Option Addr} {L : List (List Nat)} (h : RowsAt w a L) : RowsAt w.drew a L := h.below (Below.refl _ _).drew

/-- A row of one's own of rows of one's own. -/
def OwnRows (w : World) (base : Nat) (v : Value) (L : List (List Nat)) : Prop := ∃ S : List Value, OwnR id 23 w base v S ∧ S.length = L.length ∧ ∀ (i : Nat) s l, S[i]? = some s → L[i]? = some l → OwnNats w base s l
theorem OwnRows.nil (w : World) (base : Nat) : OwnRows w base (.slice none 0 0) [] := ⟨[], OwnR.nil _ _, rfl, fun i s l h _ => by simp at h⟩
theorem OwnRows.below {w w' : World} {base : Nat} {v : Value} {L : List (List Nat)} (h : OwnRows w base v L) (hb : Below w.heap.size w w') : OwnRows w' base v L := by
  obtain ⟨S, h1, h2, h3⟩ := h
  exact ⟨S, h1.below hb, h2, fun i s l hs hl => (h3 i s l hs hl).below hb⟩
theorem OwnRows.lower {w : World} {base base' : Nat} {v : Value} {L : List (List Nat)} (h : OwnRows w base v L) (hb : base' ≤ base) : OwnRows w base' v L := by
  obtain ⟨S, h1, h2, h3⟩ := h
  exact ⟨S, h1.lower hb, h2, fun i s l hs hl => (h3 i s l hs hl).lower hb⟩
theorem OwnRows.at_ {w : World} {base : Nat} {v : Value} {L : List (List Nat)} (h : OwnRows w base v L) : ∃ a c, v = .slice a L.length c ∧ RowsAt w a L := by
  obtain ⟨S, h1, h2, h3⟩ := h
  obtain ⟨a, c, e, hp, _⟩ := h1.at_
  refine ⟨a, c, by rw [e, h2], fun i l hl => ?_⟩
  obtain ⟨hi, _⟩ := List.getElem?_eq_some_iff.1 hl
  obtain ⟨s, hs⟩ : ∃ s, S[i]? = some s := ⟨_, List.getElem?_eq_getElem (by omega)⟩
  obtain ⟨b, o, ea, d1⟩ := hp i s hs
  obtain ⟨a', c', es, hp', _⟩ := (h3 i s l hs hl).at_
  exact ⟨b, o, a', c', ea, by rw [d1, es]; rfl, hp'⟩
/-- One row more behind it. -/
theorem OwnRows.push {w w' : World} {base : Nat} {v v' s : Value} {S : List Value} {L : List (List Nat)} {l : List Nat} (h1 : OwnR id 23 w base v S) (h2 : S.length = L.length) (h3 : ∀ (i : Nat) s l, S[i]? = some s → L[i]? = some l → OwnNats w base s l)
    (hs : OwnNats w base s l) (hg : w.grownBy w' v.ownBlock) (h : OwnR id 23 w' base v' (S ++ [s])) : OwnRows w' base v' (L ++ [l]) := by
  have keep : ∀ s l, OwnNats w base s l → OwnNats w' base s l := fun s l h => h.keep fun g hgs => hg.block g (h.lt g hgs).2 (fun e => unlike_rows (by decide) h h1 g hgs e.symm)
  refine ⟨S ++ [s], h, by simp [h2], fun i t m ht hm => ?_⟩
  rcases Nat.lt_or_ge i S.length with hi | hi
  · rw [List.getElem?_append_left hi] at ht
    rw [List.getElem?_append_left (by omega)] at hm
    exact keep _ _ (h3 i t m ht hm)
  · rw [List.getElem?_append_right hi] at ht
    rw [List.getElem?_append_right (by omega)] at hm
    rw [← h2] at hm
    cases hd : i - S.length with
    | zero =>
      rw [hd] at ht hm
      cases ht; cases hm
      exact keep _ _ hs
    | succ j => rw [hd] at ht; cases ht
end Go.Proofs.YtbgcldckgiiedajDoor.PGraph
