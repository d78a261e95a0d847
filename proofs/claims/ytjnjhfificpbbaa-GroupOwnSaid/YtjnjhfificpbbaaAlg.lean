/- Plain mathematics: permutations as lists form a group; nothing here speaks of the program. -/
import Derived.Test.YtjnjhfificpbbaaCycL
namespace Go.Proofs.Ytjnjhfificpbbaa
open Go.RowKit

theorem im_surj {p : List Int} (h : validL p = true) {y : Int} (hy : pt p y) : ∃ x, pt p x ∧ im p x = y := by
  obtain ⟨i, _, e⟩ := sq_returns h hy
  exact ⟨sq p y i, sq_pt h hy i, e⟩

theorem ext_im {l m : List Int} (hl : l.length = m.length) (h : ∀ x, pt l x → im l x = im m x) : l = m := by
  apply List.ext_getElem hl
  intro i h1 h2
  have := h (i : Int) ⟨by omega, by omega⟩
  simp [im, h1, h2] at this
  exact this

theorem validL_of_inj {l : List Int} (h1 : 1 ≤ l.length) (h7 : l.length ≤ 7) (hp : ∀ x, pt l x → pt l (im l x)) (hi : ∀ x y, pt l x → pt l y → im l x = im l y → x = y) : validL l = true := by
  rw [validL_iff]
  refine ⟨h1, h7, ?_, ?_⟩
  · intro x hx
    obtain ⟨i, hi, rfl⟩ := List.getElem_of_mem hx
    have := hp (i : Int) ⟨by omega, by omega⟩
    simpa [im, hi, pt] using this
  · rw [List.Nodup, List.pairwise_iff_getElem]
    intro i j hi' hj hij e
    have := hi (i : Int) (j : Int) ⟨by omega, by omega⟩ ⟨by omega, by omega⟩ (by simp [im, hi', hj, e])
    omega

theorem im_mulL {p q : List Int} {x : Int} (hx : pt p x) : im (mulL p q) x = im q (im p x) := by
  obtain ⟨h0, h1⟩ := hx
  unfold im
  rw [mulL_get p q x.toNat (by omega)]
theorem im_idL {n : Nat} {x : Int} (h0 : 0 ≤ x) (h1 : x < (n : Int)) : im (idL n) x = x := by
  unfold im
  rw [idL_get n x.toNat (by omega)]
  omega
theorem pt_len {p q : List Int} (h : p.length = q.length) (x : Int) : pt p x ↔ pt q x := by unfold pt; rw [h]

theorem mulL_valid {p q : List Int} (hp : validL p = true) (hq : validL q = true) (hl : p.length = q.length) : validL (mulL p q) = true := by
  have h1 := (validL_iff p).1 hp
  apply validL_of_inj
  · rw [length_mulL]; exact h1.1
  · rw [length_mulL]; exact h1.2.1
  · intro x hx
    rw [pt_len (length_mulL p q)] at hx ⊢
    rw [im_mulL hx, pt_len hl]
    exact im_pt hq ((pt_len hl _).1 (im_pt hp hx))
  · intro x y hx hy e
    rw [pt_len (length_mulL p q)] at hx hy
    rw [im_mulL hx, im_mulL hy] at e
    exact im_inj hp hx hy (im_inj hq ((pt_len hl _).1 (im_pt hp hx)) ((pt_len hl _).1 (im_pt hp hy)) e)

theorem idL_valid {n : Nat} (h1 : 1 ≤ n) (h7 : n ≤ 7) : validL (idL n) = true := by
  apply validL_of_inj
  · rw [length_idL]; exact h1
  · rw [length_idL]; exact h7
  · intro x hx
    have := hx
    unfold pt at this
    rw [length_idL] at this
    rw [im_idL this.1 this.2]; exact hx
  · intro x y hx hy e
    unfold pt at hx hy
    rw [length_idL] at hx hy
    rwa [im_idL hx.1 hx.2, im_idL hy.1 hy.2] at e

theorem getD_set (l : List Int) (i j : Nat) (x : Int) : (l.set i x).getD j 0 = if i = j ∧ i < l.length then x else l.getD j 0 := by
  rw [List.getD_eq_getElem?_getD, List.getD_eq_getElem?_getD, List.getElem?_set]
  by_cases e : i = j
  · subst e
    by_cases h : i < l.length
    · simp [h]
    · simp [h]
  · simp [e]

theorem invTo_get {p : List Int} (h : validL p = true) (k : Nat) (hk : k ≤ p.length) : ∀ i, i < k → im (invTo p k) (im p (i : Int)) = (i : Int) := by
  induction k with
  | zero => intro i hi; omega
  | succ k ih =>
    intro i hi
    have pk : pt p (k : Int) := ⟨by omega, by omega⟩
    have pi : pt p (i : Int) := ⟨by omega, by omega⟩
    have qk := im_pt h pk
    have qi := im_pt h pi
    obtain ⟨b0, b1⟩ := qi
    by_cases e : i = k
    · subst e
      rw [invTo]
      have hlt : (im p (i : Int)).toNat < (invTo p i).length := by rw [length_invTo]; omega
      have := getD_set (invTo p i) (im p (i : Int)).toNat (im p (i : Int)).toNat (i : Int)
      rw [if_pos ⟨rfl, hlt⟩] at this
      exact this
    · have hne : (im p (k : Int)).toNat ≠ (im p (i : Int)).toNat := by
        intro e2
        obtain ⟨a0, _⟩ := qk
        exact e (by have := im_inj h pi pk (by omega); omega)
      have h2 := ih (by omega) i (by omega)
      rw [invTo]
      have := getD_set (invTo p k) (im p (k : Int)).toNat (im p (i : Int)).toNat (k : Int)
      rw [if_neg (fun h => hne h.1)] at this
      exact this.trans h2

theorem im_inv {p : List Int} (h : validL p = true) {x : Int} (hx : pt p x) : im (invL p) (im p x) = x := by
  obtain ⟨h0, h1⟩ := hx
  obtain ⟨i, rfl⟩ := Int.eq_ofNat_of_zero_le h0
  exact invTo_get h p.length (Nat.le_refl _) i (by omega)
theorem inv_im {p : List Int} (h : validL p = true) {y : Int} (hy : pt p y) : pt p (im (invL p) y) ∧ im p (im (invL p) y) = y := by
  obtain ⟨x, hx, rfl⟩ := im_surj h hy
  rw [im_inv h hx]
  exact ⟨hx, rfl⟩
theorem invL_valid {p : List Int} (h : validL p = true) : validL (invL p) = true := by
  have h1 := (validL_iff p).1 h
  apply validL_of_inj
  · rw [length_invL]; exact h1.1
  · rw [length_invL]; exact h1.2.1
  · intro x hx
    rw [pt_len (length_invL p)] at hx ⊢
    exact (inv_im h hx).1
  · intro x y hx hy e
    rw [pt_len (length_invL p)] at hx hy
    rw [← (inv_im h hx).2, ← (inv_im h hy).2, e]

theorem mulL_assoc {p q r : List Int} (hp : validL p = true) (hpq : p.length = q.length) : mulL (mulL p q) r = mulL p (mulL q r) := by
  apply ext_im
  · simp [length_mulL]
  · intro x hx
    rw [pt_len (length_mulL _ _), pt_len (length_mulL _ _)] at hx
    rw [im_mulL ((pt_len (length_mulL p q) x).2 hx), im_mulL hx, im_mulL hx, im_mulL ((pt_len hpq _).1 (im_pt hp hx))]
theorem mulL_one {p : List Int} (hp : validL p = true) : mulL p (idL p.length) = p := by
  apply ext_im
  · simp [length_mulL]
  · intro x hx
    rw [pt_len (length_mulL _ _)] at hx
    rw [im_mulL hx]
    have := im_pt hp hx
    exact im_idL this.1 this.2
theorem one_mulL (p : List Int) : mulL (idL p.length) p = p := by
  apply ext_im
  · simp [length_mulL, length_idL]
  · intro x hx
    rw [pt_len (length_mulL _ _)] at hx
    rw [im_mulL hx]
    unfold pt at hx
    rw [length_idL] at hx
    rw [im_idL hx.1 hx.2]
theorem mulL_inv {p : List Int} (hp : validL p = true) : mulL p (invL p) = idL p.length := by
  apply ext_im
  · simp [length_mulL, length_idL]
  · intro x hx
    rw [pt_len (length_mulL _ _)] at hx
    rw [im_mulL hx, im_inv hp hx]
    exact (im_idL hx.1 hx.2).symm
theorem inv_mulL {p : List Int} (hp : validL p = true) : mulL (invL p) p = idL p.length := by
  apply ext_im
  · simp [length_mulL, length_idL, length_invL]
  · intro x hx
    rw [pt_len (length_mulL _ _)] at hx
    rw [im_mulL hx]
    rw [pt_len (length_invL _)] at hx
    rw [(inv_im hp hx).2]
    exact (im_idL hx.1 hx.2).symm

end Go.Proofs.Ytjnjhfificpbbaa
