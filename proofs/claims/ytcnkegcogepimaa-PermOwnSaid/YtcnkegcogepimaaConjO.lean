/- Plain mathematics: the first conjugating permutation in the order of the ranks is the one that was chosen. -/
import Derived.Test.YtcnkegcogepimaaConjN
import Derived.Test.YtcnkegcogepimaaRefJ
namespace Go.Proofs.Ytcnkegcogepimaa
open Go.RowKit

theorem length_unrL (n i : Nat) : (unrL n i).length = n := by unfold unrL; rw [length_unr]
theorem cjT_iff {p q : List Int} (hp : validL p = true) (hl : p.length = q.length) {i : Nat} (hi : i < fact p.length) : cjT p i = q ↔ Conj p q (unrL p.length i) := by
  obtain ⟨n1, n7, _⟩ := (validL_iff p).1 hp
  exact conj_iff hl (unrL_valid n1 n7 hi) (length_unrL _ _)
theorem cj_none {p q : List Int} (hp : validL p = true) (hq : validL q = true) (hl : p.length = q.length) (h : chs p q (cyc p).length = none) : ∀ i, i < fact p.length → cjT p i ≠ q := by
  intro i hi e
  have hc := (cjT_iff hp hl hi).1 e
  obtain ⟨js, hjs⟩ := chs_ok hp hq (conj_cnt hp hq hl hc) _ (Nat.le_refl _)
  rw [h] at hjs
  cases hjs
theorem cj_some {p q : List Int} (hp : validL p = true) (hq : validL q = true) (hl : p.length = q.length) {js : List Nat} (h : chs p q (cyc p).length = some js) :
    ∃ r, r < fact p.length ∧ cjT p r = q ∧ unrL p.length r = cf p q js (cyc p).length ∧ ∀ i, i < fact p.length → cjT p i = q → (∀ j, j < i → cjT p j ≠ q) → i = r := by
  have hch := chs_chosen _ (Nat.le_refl _) js h
  have hc := cf_conj hp hq hl hch
  obtain ⟨e, hr⟩ := unrL_rank hc.1
  rw [length_cf] at e hr
  refine ⟨rankL (cf p q js (cyc p).length), hr, (cjT_iff hp hl hr).2 (by rw [e]; exact hc), e, fun i hi hq1 hmin => ?_⟩
  have hcr : cjT p (rankL (cf p q js (cyc p).length)) = q := (cjT_iff hp hl hr).2 (by rw [e]; exact hc)
  rcases Nat.lt_trichotomy i (rankL (cf p q js (cyc p).length)) with l | l | l
  · have hf := cf_first hp hq hl hch ((cjT_iff hp hl hi).1 hq1)
    have hl2 := less_unrL hi hr
    rw [e, hf] at hl2
    simp [l] at hl2
  · exact l
  · exact absurd hcr (hmin _ l)
end Go.Proofs.Ytcnkegcogepimaa
