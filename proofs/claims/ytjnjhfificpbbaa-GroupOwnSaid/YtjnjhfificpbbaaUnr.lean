/- perm.Unrank returns the permutation with the given rank, or the error. -/
import Derived.Test.YtjnjhfificpbbaaProg
import Derived.Test.YtjnjhfificpbbaaBase
import Derived.Test.YtjnjhfificpbbaaLists
import Derived.Test.YtjnjhfificpbbaaMul
import Derived.Test.YtjnjhfificpbbaaNums
import Derived.Test.YtjnjhfificpbbaaRange
import Derived.Test.YtjnjhfificpbbaaDel
import Derived.Maps.AppendAt
namespace Go.Proofs.Ytjnjhfificpbbaa
open Go.RowKit

/-- what is still to come, with the points of rest, at the rank r -/
def unr : Nat → List Int → Nat → List Int
  | 0, _, _ => []
  | k + 1, rest, r => rest.getD (r / fact k) 0 :: unr k (rest.eraseIdx (r / fact k)) (r % fact k)
def unrL (n r : Nat) : List Int := unr n (idL n) r
theorem length_unr : ∀ (k : Nat) (rest : List Int) (r : Nat), (unr k rest r).length = k
  | 0, _, _ => rfl
  | k + 1, _, _ => by simp [unr, length_unr k]

end Go.Proofs.Ytjnjhfificpbbaa
