/- Plain mathematics: the lexicographic comparison is a total order. -/
import Derived.Test.YtdcilefiacohnaaCmp
namespace Go.Proofs.Ytdcilefiacohnaa
open Go Go.RowKit

theorem cmpLex_self : ∀ a : List Int, cmpLex a a = 0
  | [] => rfl
  | x :: a => by rw [cmpLex, if_neg (by omega), if_neg (by omega)]; exact cmpLex_self a
theorem cmpLex_neg : ∀ a b : List Int, cmpLex b a = - cmpLex a b
  | [], [] => rfl
  | [], _ :: _ => rfl
  | _ :: _, [] => rfl
  | x :: a, y :: b => by
    rw [cmpLex, cmpLex]
    by_cases h1 : x < y
    · rw [if_neg (by omega), if_pos h1, if_pos h1]; rfl
    · by_cases h2 : y < x
      · rw [if_pos h2, if_neg h1, if_pos h2]
      · rw [if_neg h2, if_neg h1, if_neg h1, if_neg h2]; exact cmpLex_neg a b
theorem cmpLex_zero : ∀ a b : List Int, cmpLex a b = 0 → a = b
  | [], [], _ => rfl
  | [], _ :: _, h => by simp [cmpLex] at h
  | _ :: _, [], h => by simp [cmpLex] at h
  | x :: a, y :: b, h => by
    rw [cmpLex] at h
    by_cases h1 : x < y
    · rw [if_pos h1] at h; omega
    · by_cases h2 : y < x
      · rw [if_neg h1, if_pos h2] at h; omega
      · rw [if_neg h1, if_neg h2] at h
        rw [cmpLex_zero a b h, show x = y by omega]
theorem cmpLex_trans : ∀ a b c : List Int, cmpLex a b < 0 → cmpLex b c < 0 → cmpLex a c < 0
  | [], [], _, h, _ => by simp [cmpLex] at h
  | [], _ :: _, [], _, h => by simp [cmpLex] at h
  | [], _ :: _, _ :: _, _, _ => by simp [cmpLex]
  | _ :: _, [], _, h, _ => by simp [cmpLex] at h
  | _ :: _, _ :: _, [], _, h => by simp [cmpLex] at h
  | x :: a, y :: b, z :: c, h, k => by
    rw [cmpLex] at h k ⊢
    by_cases h1 : x < y
    · by_cases k1 : y < z
      · rw [if_pos (by omega)]; omega
      · rw [if_neg k1] at k
        by_cases k2 : z < y
        · rw [if_pos k2] at k; omega
        · rw [if_pos (by omega)]; omega
    · rw [if_neg h1] at h
      by_cases h2 : y < x
      · rw [if_pos h2] at h; omega
      · rw [if_neg h2] at h
        by_cases k1 : y < z
        · rw [if_pos (by omega)]; omega
        · rw [if_neg k1] at k
          by_cases k2 : z < y
          · rw [if_pos k2] at k; omega
          · rw [if_neg k2] at k
            rw [if_neg (by omega), if_neg (by omega)]
            exact cmpLex_trans a b c h k
/-- not less twice is not less -/
theorem cmpLex_ntrans (a b c : List Int) (h : ¬ cmpLex a b < 0) (k : ¬ cmpLex b c < 0) : ¬ cmpLex a c < 0 := by
  intro hac
  by_cases e : cmpLex a b = 0
  · rw [cmpLex_zero a b e] at hac; exact k hac
  · have h1 : cmpLex b a < 0 := by rw [cmpLex_neg a b]; omega
    exact k (cmpLex_trans b a c h1 hac)
/-- neither less: the same -/
theorem cmpLex_total (a b : List Int) (h : ¬ cmpLex a b < 0) (k : ¬ cmpLex b a < 0) : a = b := by
  have := cmpLex_neg a b
  exact cmpLex_zero a b (by omega)
end Go.Proofs.Ytdcilefiacohnaa
