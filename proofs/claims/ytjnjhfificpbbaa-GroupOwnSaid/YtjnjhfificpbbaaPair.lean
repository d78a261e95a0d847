/- perm.checkPair, perm.Mul, perm.Commutator, perm.Inverse, perm.Identity: results and errors. -/
import Derived.Test.YtjnjhfificpbbaaProg
import Derived.Test.YtjnjhfificpbbaaBase
import Derived.Test.YtjnjhfificpbbaaLists
import Derived.Test.YtjnjhfificpbbaaValid
import Derived.Test.YtjnjhfificpbbaaMul
import Derived.Test.YtjnjhfificpbbaaAlg
namespace Go.Proofs.Ytjnjhfificpbbaa
open Go.RowKit

/-- the error of a function of two permutations -/
def errP (p q : List Int) : Int := if validL p = true ∧ validL q = true then (if p.length = q.length then 0 else 2) else 1
theorem valid_small' {p : List Int} (h : validL p = true) : p.length ≤ 1000000 := by have := ((validL_iff p).1 h).2.1; omega
theorem errP_zero {p q : List Int} (h : errP p q = 0) : validL p = true ∧ validL q = true ∧ p.length = q.length := by
  unfold errP at h
  by_cases a : validL p = true ∧ validL q = true
  · rw [if_pos a] at h
    by_cases b : p.length = q.length
    · exact ⟨a.1, a.2, b⟩
    · rw [if_neg b] at h; cases h
  · rw [if_neg a] at h; cases h
theorem errP_ok {p q : List Int} (h1 : validL p = true) (h2 : validL q = true) (h3 : p.length = q.length) : errP p q = 0 := by
  unfold errP; rw [if_pos ⟨h1, h2⟩, if_pos h3]

def mulE (p q : List Int) : List Int := if errP p q = 0 then mulL p q else []

def commL (p q : List Int) : List Int := mulL (mulL (invL p) (invL q)) (mulL p q)
def commE (p q : List Int) : List Int := if errP p q = 0 then commL p q else []

def errV (p : List Int) : Int := if validL p = true then 0 else 1
def invE (p : List Int) : List Int := if validL p = true then invL p else []

end Go.Proofs.Ytjnjhfificpbbaa
