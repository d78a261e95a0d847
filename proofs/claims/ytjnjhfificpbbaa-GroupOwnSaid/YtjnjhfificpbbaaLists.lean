/- Plain mathematics of permutations as lists of integers; nothing here speaks of the program. -/
import Derived.WalkKit
namespace Go.Proofs.Ytjnjhfificpbbaa
open Go.RowKit

/-- zs is a permutation of 1 to 7 points. -/
def validL (zs : List Int) : Bool := decide (1 ≤ zs.length ∧ zs.length ≤ 7 ∧ (∀ x, x ∈ zs → 0 ≤ x ∧ x < (zs.length : Int)) ∧ zs.Nodup)

theorem validL_iff (zs : List Int) : validL zs = true ↔ 1 ≤ zs.length ∧ zs.length ≤ 7 ∧ (∀ x, x ∈ zs → 0 ≤ x ∧ x < (zs.length : Int)) ∧ zs.Nodup := by
  unfold validL; rw [decide_eq_true_iff]

theorem validL_no_len {zs : List Int} (h : zs.length < 1 ∨ 7 < zs.length) : validL zs = false := by
  rw [← Bool.not_eq_true, validL_iff]; omega
theorem validL_no_elem {zs : List Int} {k : Nat} (hk : k < zs.length) (h : zs.getD k 0 < 0 ∨ (zs.length : Int) ≤ zs.getD k 0) : validL zs = false := by
  rw [← Bool.not_eq_true, validL_iff]; intro hv
  have := hv.2.2.1 zs[k] (List.getElem_mem hk)
  simp [hk] at h; omega
theorem validL_no_dup {zs : List Int} {k : Nat} (hk : k < zs.length) (h : zs.getD k 0 ∈ zs.take k) : validL zs = false := by
  rw [← Bool.not_eq_true, validL_iff]; intro hv
  have hn := hv.2.2.2
  rw [List.mem_take_iff_getElem] at h
  obtain ⟨i, hi, e⟩ := h
  simp [hk] at e
  exact (List.pairwise_iff_getElem.1 hn) i k (by omega) hk (by omega) e

/-- the first k elements are points, each met once -/
def goodTo (zs : List Int) (k : Nat) : Prop := (∀ x, x ∈ zs.take k → 0 ≤ x ∧ x < (zs.length : Int)) ∧ (zs.take k).Nodup
theorem goodTo_zero (zs : List Int) : goodTo zs 0 := by simp [goodTo]
theorem goodTo_succ {zs : List Int} {k : Nat} (h : goodTo zs k) (hk : k < zs.length) (h0 : 0 ≤ zs.getD k 0) (h1 : zs.getD k 0 < (zs.length : Int)) (h2 : zs.getD k 0 ∉ zs.take k) : goodTo zs (k + 1) := by
  unfold goodTo at *
  rw [List.take_succ_eq_append_getElem hk]
  simp [hk] at h0 h1 h2
  refine ⟨?_, ?_⟩
  · intro x hx
    rcases List.mem_append.1 hx with hx | hx
    · exact h.1 x hx
    · simp at hx; subst hx; exact ⟨h0, h1⟩
  · rw [List.nodup_append]
    refine ⟨h.2, by simp, ?_⟩
    intro a ha b hb e
    simp at hb; subst hb; subst e; exact h2 ha
theorem validL_of_good {zs : List Int} (h : goodTo zs zs.length) (h1 : 1 ≤ zs.length) (h7 : zs.length ≤ 7) : validL zs = true := by
  rw [validL_iff]
  unfold goodTo at h
  rw [List.take_of_length_le (Nat.le_refl _)] at h
  exact ⟨h1, h7, h.1, h.2⟩

/-- seven marks: which of the points 0 to 6 are in s -/
def mk (s : List Int) : Array Value := Array.ofFn (n := 7) fun i => .bool (decide (((i : Nat) : Int) ∈ s))
theorem mk_get (s : List Int) (i : Nat) (h : i < 7) : (mk s)[i]? = some (.bool (decide ((i : Int) ∈ s))) := by simp [mk, h]
theorem mk_nil : mk [] = #[.bool false, .bool false, .bool false, .bool false, .bool false, .bool false, .bool false] := by simp [mk]; rfl
theorem mk_get_none (s : List Int) (i : Nat) (h : 7 ≤ i) : (mk s)[i]? = none := by rw [Array.getElem?_eq_none_iff]; simp [mk, h]
theorem mk_set (s : List Int) (i : Nat) : (mk s).setIfInBounds i (.bool true) = mk ((i : Int) :: s) := by
  apply Array.ext_getElem?
  intro j
  rw [Array.getElem?_setIfInBounds]
  by_cases h7 : j < 7
  · rw [mk_get _ j h7, mk_get _ j h7]
    by_cases e : i = j
    · subst e; simp [mk, h7]
    · have : ¬ ((j : Int) = (i : Int)) := by omega
      simp [e, this]
  · rw [mk_get_none _ j (by omega), mk_get_none _ j (by omega)]
    by_cases e : i = j
    · subst e; simp [mk, h7]
    · simp [e]
theorem mk_congr {s t : List Int} (h : ∀ x : Int, x ∈ s ↔ x ∈ t) : mk s = mk t := by
  unfold mk; congr 1; funext i; simp [h]
theorem size_mk (s : List Int) : (mk s).size = 7 := by simp [mk]

/-- first p, then q -/
def mulL (p q : List Int) : List Int := p.map fun x => q.getD x.toNat 0
theorem length_mulL (p q : List Int) : (mulL p q).length = p.length := by simp [mulL]
theorem mulL_get (p q : List Int) (k : Nat) (h : k < p.length) : (mulL p q).getD k 0 = q.getD (p.getD k 0).toNat 0 := by simp [mulL, h]

/-- the first k steps of inversion -/
def invTo (p : List Int) : Nat → List Int
  | 0 => List.replicate p.length 0
  | k + 1 => (invTo p k).set (p.getD k 0).toNat k
def invL (p : List Int) : List Int := invTo p p.length
theorem length_invTo (p : List Int) (k : Nat) : (invTo p k).length = p.length := by
  induction k with
  | zero => simp [invTo]
  | succ k ih => simp [invTo, ih]
theorem length_invL (p : List Int) : (invL p).length = p.length := length_invTo p _

def idL (n : Nat) : List Int := (List.range n).map fun (i : Nat) => (i : Int)
theorem length_idL (n : Nat) : (idL n).length = n := by simp [idL]
theorem idL_get (n k : Nat) (h : k < n) : (idL n).getD k 0 = k := by simp [idL, h]

/-- each element is a place of a list of n elements -/
def inR (p : List Int) (n : Nat) : Prop := ∀ k, k < p.length → 0 ≤ p.getD k 0 ∧ p.getD k 0 < (n : Int)
theorem inR_of_valid {p : List Int} (h : validL p = true) : inR p p.length := fun k hk => by
  have := ((validL_iff p).1 h).2.2.1 p[k] (List.getElem_mem hk)
  simpa [hk] using this

end Go.Proofs.Ytjnjhfificpbbaa
