/- Plain mathematics of the cycles of a permutation: the points from one point on, the period, the cycle; nothing here speaks of the program. -/
import Derived.Test.YtjnjhfificpbbaaLists
namespace Go.Proofs.Ytjnjhfificpbbaa
open Go.RowKit

/-- the image of a point -/
def im (p : List Int) (x : Int) : Int := p.getD x.toNat 0
/-- the points that follow one another from x on -/
def sq (p : List Int) (x : Int) : Nat → Int
  | 0 => x
  | i + 1 => im p (sq p x i)

/-- x is a point -/
def pt (p : List Int) (x : Int) : Prop := 0 ≤ x ∧ x < (p.length : Int)

theorem im_pt {p : List Int} (h : validL p = true) {x : Int} (hx : pt p x) : pt p (im p x) := by
  obtain ⟨h0, h1⟩ := hx
  have := inR_of_valid h x.toNat (by omega)
  exact this
theorem im_inj {p : List Int} (h : validL p = true) {x y : Int} (hx : pt p x) (hy : pt p y) (e : im p x = im p y) : x = y := by
  have hn := ((validL_iff p).1 h).2.2.2
  obtain ⟨h0, h1⟩ := hx
  obtain ⟨h2, h3⟩ := hy
  have a1 : x.toNat < p.length := by omega
  have a2 : y.toNat < p.length := by omega
  simp [im, a1, a2] at e
  rcases Nat.lt_trichotomy x.toNat y.toNat with h | h | h
  · exact absurd e ((List.pairwise_iff_getElem.1 hn) _ _ a1 a2 h)
  · omega
  · exact absurd e.symm ((List.pairwise_iff_getElem.1 hn) _ _ a2 a1 h)
theorem sq_pt {p : List Int} (h : validL p = true) {x : Int} (hx : pt p x) (i : Nat) : pt p (sq p x i) := by
  induction i with
  | zero => exact hx
  | succ i ih => exact im_pt h ih
theorem sq_add (p : List Int) (x : Int) (i j : Nat) : sq p x (i + j) = sq p (sq p x i) j := by
  induction j with
  | zero => rfl
  | succ j ih => rw [← Nat.add_assoc]; simp only [sq]; rw [ih]

/-- a list of different numbers below n has at most n elements -/
theorem nodup_len (n : Nat) : ∀ l : List Nat, l.Nodup → (∀ x, x ∈ l → x < n) → l.length ≤ n := by
  induction n with
  | zero => intro l _ h; cases l with
    | nil => simp
    | cons a l => exact absurd (h a (by simp)) (by omega)
  | succ n ih =>
    intro l hl h
    have := ih (l.erase n) (hl.erase n) (fun x hx => by
      have h1 := h x (List.mem_of_mem_erase hx)
      have h2 : x ≠ n := fun e => by subst e; exact (List.Nodup.not_mem_erase hl) hx
      omega)
    by_cases hm : n ∈ l
    · rw [List.length_erase_of_mem hm] at this; omega
    · rw [List.erase_of_not_mem hm] at this; omega

theorem sq_back {p : List Int} (h : validL p = true) {x : Int} (hx : pt p x) (j : Nat) : ∀ i, sq p x (i + j) = sq p x i → sq p x j = x := by
  intro i
  induction i with
  | zero => intro e; rw [Nat.zero_add] at e; exact e
  | succ i ih =>
    intro e
    rw [show i + 1 + j = (i + j) + 1 from by omega] at e
    exact ih (im_inj h (sq_pt h hx _) (sq_pt h hx _) e)

theorem sq_returns {p : List Int} (h : validL p = true) {x : Int} (hx : pt p x) : ∃ i, i < p.length ∧ sq p x (i + 1) = x := by
  have hl : ¬ ((List.range (p.length + 1)).map fun i => (sq p x i).toNat).Nodup := by
    intro hn
    have := nodup_len p.length _ hn (fun y hy => by
      obtain ⟨i, _, rfl⟩ := List.mem_map.1 hy
      have := sq_pt h hx i
      obtain ⟨h0, h1⟩ := this
      omega)
    simp at this
    omega
  have hex : ∃ i j, i < j ∧ j ≤ p.length ∧ sq p x i = sq p x j := by
    apply Classical.byContradiction
    intro hno
    apply hl
    rw [List.Nodup, List.pairwise_iff_getElem]
    intro i j hi hj hij
    simp at hi hj ⊢
    intro e
    apply hno
    refine ⟨i, j, hij, by omega, ?_⟩
    obtain ⟨a0, _⟩ := sq_pt h hx i
    obtain ⟨b0, _⟩ := sq_pt h hx j
    omega
  obtain ⟨i, j, hij, hj, e⟩ := hex
  refine ⟨j - i - 1, by omega, ?_⟩
  rw [show j - i - 1 + 1 = j - i from by omega]
  apply sq_back h hx (j - i) i
  rw [show i + (j - i) = j from by omega]
  exact e.symm

/-- how many points there are on the cycle of x -/
def per (p : List Int) (x : Int) : Nat := ((List.range p.length).find? fun i => sq p x (i + 1) == x).getD 0 + 1

theorem per_spec {p : List Int} (h : validL p = true) {x : Int} (hx : pt p x) : per p x ≤ p.length ∧ sq p x (per p x) = x ∧ ∀ i, 1 ≤ i → i < per p x → sq p x i ≠ x := by
  obtain ⟨i, hi, e⟩ := sq_returns h hx
  unfold per
  cases hf : (List.range p.length).find? (fun i => sq p x (i + 1) == x) with
  | none =>
    rw [List.find?_eq_none] at hf
    exact absurd (by simpa using e) (hf i (by simpa using hi))
  | some j =>
    have h1 := List.find?_some hf
    have h2 := List.mem_of_find?_eq_some hf
    simp at h1 h2
    refine ⟨by simp; omega, by simpa using h1, ?_⟩
    intro k hk1 hk2
    simp at hk2
    rw [List.find?_range_eq_some] at hf
    have := hf.2.2 (k - 1) (by omega)
    rw [show k - 1 + 1 = k from by omega] at this
    simpa using this

/-- the cycle of x, from x on -/
def cyL (p : List Int) (x : Int) : List Int := (List.range (per p x)).map (sq p x)
theorem length_cyL (p : List Int) (x : Int) : (cyL p x).length = per p x := by simp [cyL]
theorem cyL_take_succ (p : List Int) (x : Int) (k : Nat) (hk : k < per p x) : (cyL p x).take (k + 1) = (cyL p x).take k ++ [sq p x k] := by
  rw [List.take_succ_eq_append_getElem (by rw [length_cyL]; exact hk)]
  simp [cyL]

/-- Scanning the first k points: the cycles so far, and the points that they hold. -/
def cyTo (p : List Int) : Nat → List (List Int) × List Int
  | 0 => ([], [])
  | k + 1 => if (k : Int) ∈ (cyTo p k).2 then cyTo p k else ((cyTo p k).1 ++ [cyL p k], (cyTo p k).2 ++ cyL p k)
/-- All cycles, also those of one point. -/
def cyc (p : List Int) : List (List Int) := (cyTo p p.length).1

theorem cyTo_old {p : List Int} {k : Nat} (h : (k : Int) ∈ (cyTo p k).2) : cyTo p (k + 1) = cyTo p k := by simp [cyTo, h]
theorem cyTo_new {p : List Int} {k : Nat} (h : (k : Int) ∉ (cyTo p k).2) : cyTo p (k + 1) = ((cyTo p k).1 ++ [cyL p k], (cyTo p k).2 ++ cyL p k) := by simp [cyTo, h]
theorem cyTo_prefix (p : List Int) (k : Nat) : ∀ n, k ≤ n → (cyTo p k).1 <+: (cyTo p n).1 := by
  intro n
  induction n with
  | zero => intro h; obtain rfl : k = 0 := by omega
            exact List.prefix_refl _
  | succ n ih =>
    intro h
    by_cases e : k = n + 1
    · subst e; exact List.prefix_refl _
    · have := ih (by omega)
      refine List.IsPrefix.trans this ?_
      by_cases hm : (n : Int) ∈ (cyTo p n).2
      · rw [cyTo_old hm]; exact List.prefix_refl _
      · rw [cyTo_new hm]; exact List.prefix_append _ _
/-- At a new point k: it is the next cycle's first. -/
theorem cyc_at {p : List Int} {k : Nat} (hk : k < p.length) (h : (k : Int) ∉ (cyTo p k).2) : (cyTo p k).1.length < (cyc p).length ∧ (cyc p).getD (cyTo p k).1.length [] = cyL p k := by
  have hp := cyTo_prefix p (k + 1) p.length (by omega)
  rw [cyTo_new h] at hp
  have hl := hp.length_le
  simp at hl
  refine ⟨by unfold cyc; omega, ?_⟩
  obtain ⟨t, ht⟩ := hp
  unfold cyc
  rw [← ht]
  simp

theorem cyTo_mem (p : List Int) (k : Nat) : ∀ c, c ∈ (cyTo p k).1 → ∃ x : Nat, x < k ∧ c = cyL p x := by
  induction k with
  | zero => intro c h; simp [cyTo] at h
  | succ k ih =>
    intro c h
    by_cases hm : (k : Int) ∈ (cyTo p k).2
    · rw [cyTo_old hm] at h
      obtain ⟨x, hx, e⟩ := ih c h
      exact ⟨x, by omega, e⟩
    · rw [cyTo_new hm] at h
      rcases List.mem_append.1 h with h | h
      · obtain ⟨x, hx, e⟩ := ih c h
        exact ⟨x, by omega, e⟩
      · simp at h
        exact ⟨k, by omega, h⟩
theorem cyc_len {p : List Int} (h : validL p = true) {k : Nat} (hk : k < (cyc p).length) : 1 ≤ ((cyc p).getD k []).length ∧ ((cyc p).getD k []).length ≤ 7 := by
  obtain ⟨x, hx, e⟩ := cyTo_mem p p.length (cyc p)[k] (List.getElem_mem hk)
  have h7 := ((validL_iff p).1 h).2.1
  have := (per_spec h (x := (x : Int)) ⟨by omega, by omega⟩).1
  simp [hk, e, length_cyL]
  exact ⟨by unfold per; omega, by omega⟩

theorem cyL_pt {p : List Int} (h : validL p = true) {x : Int} (hx : pt p x) : ∀ y, y ∈ cyL p x → pt p y := by
  intro y hy
  obtain ⟨i, _, rfl⟩ := List.mem_map.1 hy
  exact sq_pt h hx i

end Go.Proofs.Ytjnjhfificpbbaa
