/- perm.factorial and perm.leastMultiple compute the factorial and the least common multiple of small numbers. -/
import Derived.Test.YtjnjhfificpbbaaProg
import Derived.Test.YtjnjhfificpbbaaBase
import Derived.Test.YtjnjhfificpbbaaLists
namespace Go.Proofs.Ytjnjhfificpbbaa
open Go.RowKit

def fact : Nat → Nat
  | 0 => 1
  | n + 1 => (n + 1) * fact n
theorem fact_le (n : Nat) (h : n ≤ 7) : 1 ≤ fact n ∧ fact n ≤ 5040 := by
  rcases n with _ | _ | _ | _ | _ | _ | _ | _ | n <;> first | decide | omega

theorem dvd_step (a b m : Nat) (hm : a ∣ m) (hl : m ≤ Nat.lcm a b) (hn : m % b ≠ 0) : m + a ≤ Nat.lcm a b := by
  have hd : a ∣ Nat.lcm a b := Nat.dvd_lcm_left a b
  obtain ⟨c, hc⟩ := hm
  obtain ⟨d, hd⟩ := hd
  have hne : m ≠ Nat.lcm a b := fun e => hn (by rw [e]; exact Nat.mod_eq_zero_of_dvd (Nat.dvd_lcm_right a b))
  have hlt : a * c < a * d := by rw [← hc, ← hd]; omega
  have : c < d := Nat.lt_of_mul_lt_mul_left hlt
  rw [hc, hd]
  calc a * c + a = a * (c + 1) := by rw [Nat.mul_add, Nat.mul_one]
    _ ≤ a * d := Nat.mul_le_mul_left a this

end Go.Proofs.Ytjnjhfificpbbaa
