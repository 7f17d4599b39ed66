/- Entries: a key and its text; plain words on rising rows of them. -/
import Derived.WalkKit
namespace Go.Proofs.Ytlefcjgemojhpab.PTree
structure En where
  k : Int
  t : ByteArray
def En.zero : En := ⟨0, ⟨#[]⟩⟩
end Go.Proofs.Ytlefcjgemojhpab.PTree
