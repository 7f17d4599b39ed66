/- The place of the last write of an item that is not gone by a place, in plain words (no program in it). No conditions. -/
import Derived.Test.YtlalpahfoafhoabRunNum
namespace Go.Proofs.Ytlalpahfoafhoab.PRun
def isW (X : List Rn.Op) (j : Nat) (it : Int) (o : Rn.Op) : Bool := decide (o.k = 2) && decide (o.i = it) && !decide (Rn.ends (X.take j) o.x.toNat = 4)
def wrI (X : List Rn.Op) (j : Nat) (it : Int) : Nat → Option Nat
  | 0 => none
  | k + 1 => match X[k]? with
    | some o => if isW X j it o = true then some k else wrI X j it k
    | none => wrI X j it k
def wrN : Option Nat → Int
  | some k => (k : Int)
  | none => -1
theorem wrI_hit {X : List Rn.Op} {j k : Nat} {it : Int} {o : Rn.Op} (ho : X[k]? = some o) (h : isW X j it o = true) : wrI X j it (k + 1) = some k := by simp only [wrI, ho, if_pos h]
theorem wrI_miss {X : List Rn.Op} {j k : Nat} {it : Int} {o : Rn.Op} (ho : X[k]? = some o) (h : isW X j it o = false) : wrI X j it (k + 1) = wrI X j it k := by
  simp only [wrI, ho]; rw [if_neg (by rw [h]; exact Bool.false_ne_true)]
theorem isW_iff {X : List Rn.Op} {j : Nat} {it : Int} {o : Rn.Op} : isW X j it o = true ↔ (o.k = 2 ∧ o.i = it ∧ Rn.ends (X.take j) o.x.toNat ≠ 4) := by
  simp [isW, and_assoc]
theorem lastW_hit {X : List Rn.Op} {E : Nat → Int} {it : Int} {k : Nat} {q : Rn.Op} (hq : X[k]? = some q) (h : q.k = 2 ∧ q.i = it ∧ E q.x.toNat ≠ 4) : Rn.lastW X E it (k + 1) = some q.x := by
  simp only [Rn.lastW, hq, if_pos h]
theorem lastW_miss {X : List Rn.Op} {E : Nat → Int} {it : Int} {k : Nat} {q : Rn.Op} (hq : X[k]? = some q) (h : ¬ (q.k = 2 ∧ q.i = it ∧ E q.x.toNat ≠ 4)) : Rn.lastW X E it (k + 1) = Rn.lastW X E it k := by
  simp only [Rn.lastW, hq, if_neg h]
end Go.Proofs.Ytlalpahfoafhoab.PRun
