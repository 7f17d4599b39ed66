/- Key deeds, how they lie, and what they make of a row of entries. -/
import Derived.Test.YtlefcjgemojhpabTreePD
namespace Go.Proofs.Ytlefcjgemojhpab.PTree
open Go Go.RowKit PPool
set_option maxRecDepth 100000
structure Kd where
  kind : Int
  key : Int
  text : ByteArray
def KdAt (w : World) (da : Option Addr) (X : List Kd) : Prop := ∀ (j : Nat) x, X[j]? = some x → ∃ db off, da = some ⟨db, off, none⟩ ∧ db < w.heap.size ∧
  w.cell? ⟨db, off + j * 3, none⟩ = some (.int .i64 x.kind) ∧ w.cell? ⟨db, off + j * 3 + 1, none⟩ = some (.int .i64 x.key) ∧ w.cell? ⟨db, off + j * 3 + 2, none⟩ = some (.string x.text)
theorem KdAt.below {w w' : World} {da : Option Addr} {X : List Kd} (h : KdAt w da X) (hb : Below w.heap.size w w') : KdAt w' da X := fun j x hj => by
  obtain ⟨db, off, e, h0, h1, h2, h3⟩ := h j x hj
  exact ⟨db, off, e, Nat.lt_of_lt_of_le h0 hb.size, (hb.cell (p := ⟨db, _, none⟩) h0).trans h1, (hb.cell (p := ⟨db, _, none⟩) h0).trans h2, (hb.cell (p := ⟨db, _, none⟩) h0).trans h3⟩
def Texts (L : List En) : Prop := ∀ x ∈ L, x.t.size ≤ 140737488355328
theorem up_texts {L : List En} (h : Texts L) {e : En} (he : e.t.size ≤ 140737488355328) : Texts (up L e) := fun x hx => by
  unfold up at hx
  rcases List.mem_append.1 hx with hx | hx
  · exact h x ((List.mem_filter.1 hx).1)
  · rcases List.mem_cons.1 hx with rfl | hx
    · exact he
    · exact h x ((List.mem_filter.1 hx).1)
theorem out_texts {L : List En} (h : Texts L) (k : Int) : Texts (out L k) := fun x hx => by
  have : x ∈ L := by
    unfold out at hx
    exact (List.mem_filter.1 hx).1
  exact h x this
theorem putL_texts {L : List En} (h : Texts L) {e : En} (he : e.t.size ≤ 140737488355328) : Texts (putL L e) := by
  unfold putL; split
  · exact up_texts h he
  · exact h
theorem dropL_texts {L : List En} (h : Texts L) (k : Int) : Texts (dropL L k) := by
  unfold dropL; split
  · exact out_texts h k
  · exact h
def stepK (L : List En) (x : Kd) : List En := if x.kind.tmod 3 = 0 then dropL L x.key else putL L ⟨x.key, x.text⟩
def runK (X : List Kd) : List En := X.foldl stepK []
theorem run_next {X : List Kd} {k : Nat} {x : Kd} (h : X[k]? = some x) : runK (X.take (k + 1)) = stepK (runK (X.take k)) x := by
  rw [List.take_add_one, h]
  unfold runK
  rw [List.foldl_append]; rfl
theorem below_dom {b : Nat} {w w1 w2 : World} {o o' : Lab} (hb : Below b w w1) (g : Goes (dom o) w1 w2 (dom o')) (ho : ∀ k, o k ≠ none → b ≤ k) (hs : b ≤ w1.heap.size) : Below b w w2 ∧ ∀ k, o' k ≠ none → b ≤ k :=
  ⟨⟨g.os.trans hb.os, g.tape.trans hb.tape, g.output.trans hb.output, Nat.le_trans hb.size g.size, fun k hk => (g.block k (by omega) fun e => by have := ho k e; omega).trans (hb.block k hk)⟩,
   fun k hk => by rcases g.grow k hk with e | e; exact ho k e; omega⟩
end Go.Proofs.Ytlefcjgemojhpab.PTree
