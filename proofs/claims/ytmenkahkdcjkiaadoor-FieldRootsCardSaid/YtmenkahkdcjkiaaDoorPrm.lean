/- Plain mathematics: prime numbers up to 65536 by trial division. -/
namespace Go.Proofs.YtmenkahkdcjkiaaDoor
def primeB (n : Nat) : Bool := decide (2 ≤ n ∧ ∀ d, d < n → 2 ≤ d → n % d ≠ 0)
theorem primeB_iff (n : Nat) : primeB n = true ↔ 2 ≤ n ∧ ∀ d, d < n → 2 ≤ d → n % d ≠ 0 := by unfold primeB; rw [decide_eq_true_iff]

def smallP : List Nat := [2, 3, 5, 7, 11, 13, 17, 19, 23, 29, 31, 37, 41, 43, 47, 53, 59, 61, 67, 71, 73, 79, 83, 89, 97, 101, 103, 107, 109, 113, 127, 131, 137, 139, 149, 151, 157, 163, 167, 173, 179, 181, 191, 193, 197, 199, 211, 223, 227, 229, 233, 239, 241, 251]
theorem smallP_all : ∀ d, d < 257 → 2 ≤ d → ∃ p, p ∈ smallP ∧ d % p = 0 := by decide +kernel
theorem smallP_ge : ∀ p, p ∈ smallP → 2 ≤ p ∧ p ≤ 251 := by decide +kernel
theorem smallP_up : ∀ i, i < 54 → ∀ j, j < 54 → i ≤ j → smallP.getD i 0 ≤ smallP.getD j 0 := by decide +kernel
theorem smallP_len : smallP.length = 54 := rfl
theorem smallP_get (i : Nat) (h : i < 54) : smallP.getD i 0 ∈ smallP := by
  rw [List.getD_eq_getElem?_getD, List.getElem?_eq_getElem (by simpa [smallP_len] using h)]; exact List.getElem_mem _

theorem smallP_mem {p : Nat} (h : p ∈ smallP) : ∃ i, i < 54 ∧ p = smallP.getD i 0 := by
  obtain ⟨i, hi, e⟩ := List.getElem_of_mem h
  exact ⟨i, hi, by rw [List.getD_eq_getElem?_getD, List.getElem?_eq_getElem hi]; exact e.symm⟩

/-- a number without a small divisor is prime -/
theorem primeB_of_small {n : Nat} (h2 : 2 ≤ n) (hn : n ≤ 65536) (h : ∀ p, p ∈ smallP → p * p ≤ n → n % p ≠ 0) : primeB n = true := by
  rw [primeB_iff]
  refine ⟨h2, ?_⟩
  intro d
  induction d using Nat.strongRecOn with
  | _ d ih =>
    intro hd hd2 he
    have hdv : d ∣ n := Nat.dvd_of_mod_eq_zero he
    obtain ⟨e, rfl⟩ := hdv
    have he2 : 2 ≤ e := by
      rcases e with _ | _ | e
      · omega
      · omega
      · omega
    have hle : d ≤ e := by
      by_cases hh : d ≤ e
      · exact hh
      · exact absurd (Nat.mul_mod_left d e) (ih e (by omega) (by rw [Nat.mul_comm]; exact Nat.lt_of_lt_of_le (by omega : e < e * 2) (Nat.mul_le_mul_left e hd2)) he2)
    have hdd : d * d ≤ d * e := Nat.mul_le_mul_left d hle
    have hd257 : d < 257 := by
      by_cases hh : d < 257
      · exact hh
      · have := Nat.mul_le_mul (show 257 ≤ d by omega) (show 257 ≤ d by omega); omega
    obtain ⟨p, hp, hpd⟩ := smallP_all d hd257 hd2
    have hdp : p ∣ d := Nat.dvd_of_mod_eq_zero hpd
    have hpl := Nat.le_of_dvd (by omega) hdp
    exact h p hp (Nat.le_trans (Nat.mul_le_mul hpl hpl) hdd) (Nat.mod_eq_zero_of_dvd (Nat.dvd_trans hdp (Nat.dvd_mul_right d e)))
theorem primeB_of_break {n k : Nat} (h2 : 2 ≤ n) (hn : n ≤ 65536) (hk : k < 54) (hb : n < smallP.getD k 0 * smallP.getD k 0) (h : ∀ i, i < k → n % smallP.getD i 0 ≠ 0) : primeB n = true := by
  refine primeB_of_small h2 hn fun p hp hpp => ?_
  obtain ⟨i, hi, rfl⟩ := smallP_mem hp
  refine h i ?_
  by_cases hh : i < k
  · exact hh
  · have := smallP_up k hk i hi (by omega)
    have := Nat.mul_le_mul this this
    omega
theorem primeB_of_all {n : Nat} (h2 : 2 ≤ n) (hn : n ≤ 65536) (h : ∀ i, i < 54 → n % smallP.getD i 0 ≠ 0) : primeB n = true := by
  refine primeB_of_small h2 hn fun p hp _ => ?_
  obtain ⟨i, hi, rfl⟩ := smallP_mem hp
  exact h i hi
theorem primeB_no {n k : Nat} (hk : k < 54) (hb : ¬ n < smallP.getD k 0 * smallP.getD k 0) (h : n % smallP.getD k 0 = 0) : primeB n = false := by
  rw [← Bool.not_eq_true, primeB_iff]
  intro ⟨h2, hd⟩
  have hp := smallP_ge _ (smallP_get k hk)
  have : smallP.getD k 0 * 2 ≤ smallP.getD k 0 * smallP.getD k 0 := Nat.mul_le_mul_left _ hp.1
  exact hd _ (by omega) hp.1 h
end Go.Proofs.YtmenkahkdcjkiaaDoor
