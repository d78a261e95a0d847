/- Plain mathematics: the elements of order k are the powers of one of them; the least of them. -/
import Derived.Test.YtmenkahkdcjkiaaDoorCyc
namespace Go.Proofs.YtmenkahkdcjkiaaDoor
/-- r is the least element of order k -/
def LR (q : Nat) (mul : Nat → Nat → Nat) (k r : Nat) : Prop := r < q ∧ Ord mul r k ∧ ∀ s, s < q → Ord mul s k → r ≤ s
/-- least is the least of the powers of one to exponents up to j that are coprime to k -/
def lfit (mul : Nat → Nat → Nat) (one k j next least : Nat) : Prop := next = pw mul one j ∧ (∃ i, 1 ≤ i ∧ i ≤ j ∧ Nat.Coprime i k ∧ least = pw mul one i) ∧ ∀ i, 1 ≤ i → i ≤ j → Nat.Coprime i k → least ≤ pw mul one i
theorem lfit_next {mul : Nat → Nat → Nat} {one k j next least : Nat} (h : lfit mul one k j next least) (hl : mul next one < least) (hg : Nat.gcd (j + 1) k = 1) : lfit mul one k (j + 1) (mul next one) (mul next one) := by
  obtain ⟨h1, ⟨i, i1, i2, i3, i4⟩, h3⟩ := h
  subst h1
  refine ⟨rfl, ⟨j + 1, by omega, Nat.le_refl _, hg, rfl⟩, fun e e1 e2 e3 => ?_⟩
  by_cases he : e = j + 1
  · subst he; exact Nat.le_refl _
  · exact Nat.le_of_lt (Nat.lt_of_lt_of_le hl (h3 e e1 (by omega) e3))
theorem lfit_skip {mul : Nat → Nat → Nat} {one k j next least : Nat} (h : lfit mul one k j next least) (hl : ¬ (mul next one < least ∧ Nat.gcd (j + 1) k = 1)) : lfit mul one k (j + 1) (mul next one) least := by
  obtain ⟨h1, ⟨i, i1, i2, i3, i4⟩, h3⟩ := h
  subst h1
  refine ⟨rfl, ⟨i, i1, by omega, i3, i4⟩, fun e e1 e2 e3 => ?_⟩
  by_cases he : e = j + 1
  · subst he
    by_cases hh : least ≤ pw mul one (j + 1)
    · exact hh
    · exact absurd ⟨by show pw mul one (j + 1) < least; omega, e3⟩ hl
  · exact h3 e e1 (by omega) e3

namespace Fld
variable {q : Nat} {add mul : Nat → Nat → Nat} (F : Fld q add mul)
include F
theorem lfit_start {one k : Nat} (ho : one < q) : lfit mul one k 1 one one := ⟨(F.pw_one ho).symm, ⟨1, Nat.le_refl _, Nat.le_refl _, Nat.coprime_one_left k, (F.pw_one ho).symm⟩, fun i i1 i2 _ => by
  obtain rfl : i = 1 := by omega
  rw [F.pw_one ho]; exact Nat.le_refl _⟩
theorem ord_ne {a k : Nat} (ha : a < q) (hk : 1 ≤ k) (h : Ord mul a k) : a ≠ 0 := fun e => by
  subst e
  have := (h k).2 (Nat.dvd_refl k)
  rw [F.zero_pw (by omega)] at this; omega
/-- powers of an element of order n with different exponents below n are different -/
theorem pw_inj {a n i j : Nat} (ha : a < q) (hn : 1 ≤ n) (h : Ord mul a n) (hi : i < n) (hj : j < n) (e : pw mul a i = pw mul a j) : i = j := by
  have key : ∀ i j, i ≤ j → j < n → pw mul a i = pw mul a j → i = j := fun i j hij hj e => by
    have e1 := F.pw_add ha i (j - i)
    rw [show i + (j - i) = j from by omega, ← e] at e1
    have h0 := F.pw_ne ha (F.ord_ne ha hn h) i
    have h1 := F.pw_lt ha i
    have e2 : pw mul a (j - i) = 1 := F.mul_left h1 h0 (F.pw_lt ha _) F.one_lt (by rw [← e1, F.mul_one _ h1])
    have := (h _).1 e2
    rcases Nat.eq_zero_or_pos (j - i) with h3 | h3
    · omega
    · have := Nat.le_of_dvd h3 this; omega
  rcases Nat.le_total i j with h1 | h1
  · exact key i j h1 hj e
  · exact (key j i h1 hi e.symm).symm
/-- the n powers of an element of order n are all the roots of 1 for n -/
theorem unity_pw {a n x : Nat} (ha : a < q) (hn : 1 ≤ n) (h : Ord mul a n) (hx : x < q) (hx1 : pw mul x n = 1) : ∃ i, i < n ∧ x = pw mul a i := by
  apply Classical.byContradiction
  intro hno
  have := F.unity_le hn (x :: (List.range n).map (pw mul a)) (by
    rw [List.nodup_cons]
    refine ⟨fun hm => ?_, nodup_map List.nodup_range fun i j hi hj => F.pw_inj ha hn h (List.mem_range.1 hi) (List.mem_range.1 hj)⟩
    obtain ⟨i, hi, e⟩ := List.mem_map.1 hm
    exact hno ⟨i, List.mem_range.1 hi, e.symm⟩) (fun y hy => by
    rcases List.mem_cons.1 hy with rfl | hy
    · exact ⟨hx, hx1⟩
    · obtain ⟨i, hi, rfl⟩ := List.mem_map.1 hy
      exact ⟨F.pw_lt ha i, by rw [← F.pw_mul ha]; exact (h _).2 (Nat.dvd_mul_left n i)⟩)
  simp at this; omega
theorem ord_pw {a n i : Nat} (ha : a < q) (h : Ord mul a n) (hc : Nat.Coprime i n) : Ord mul (pw mul a i) n := fun e => by
  rw [← F.pw_mul ha, h]
  exact ⟨fun hd => hc.symm.dvd_of_dvd_mul_left hd, fun hd => Nat.dvd_trans hd (Nat.dvd_mul_left e i)⟩
theorem lfit_end {one k j next least : Nat} (ho : one < q) (hk : 1 ≤ k) (h : Ord mul one k) (hj : k ≤ j + 1) (hf : lfit mul one k j next least) : LR q mul k least := by
  obtain ⟨h1, ⟨i, i1, i2, i3, rfl⟩, h3⟩ := hf
  refine ⟨F.pw_lt ho i, F.ord_pw ho h i3, fun s hs hso => ?_⟩
  obtain ⟨e, he, rfl⟩ := F.unity_pw ho hk h hs ((hso k).2 (Nat.dvd_refl k))
  have hco : Nat.Coprime e k := by
    obtain ⟨c, hc⟩ := Nat.gcd_dvd_left e k
    obtain ⟨d, hd⟩ := Nat.gcd_dvd_right e k
    have hg : 0 < Nat.gcd e k := Nat.gcd_pos_of_pos_right e (by omega)
    have : pw mul (pw mul one e) d = 1 := by
      rw [← F.pw_mul ho, h]
      refine ⟨c, ?_⟩
      have : e * d = Nat.gcd e k * c * d := by rw [← hc]
      rw [this]
      have h5 : k * c = Nat.gcd e k * d * c := by rw [← hd]
      rw [h5, Nat.mul_assoc, Nat.mul_assoc, Nat.mul_comm c d]
    have hkd := (hso d).1 this
    have hd0 : 0 < d := by
      rcases Nat.eq_zero_or_pos d with h0 | h0
      · subst h0; rw [Nat.mul_zero] at hd; omega
      · exact h0
    have hle := Nat.le_of_dvd hd0 hkd
    show Nat.gcd e k = 1
    have h6 : Nat.gcd e k * d ≤ 1 * d := by rw [← hd, Nat.one_mul]; exact hle
    have := Nat.le_of_mul_le_mul_right h6 hd0
    omega
  by_cases h0 : e = 0
  · subst h0
    have hk1 : k = 1 := by simpa [Nat.Coprime] using hco
    subst hk1
    have : one = 1 := by have := (h 1).2 (Nat.dvd_refl 1); rwa [F.pw_one ho] at this
    subst this
    rw [F.one_pw, F.one_pw]; exact Nat.le_refl _
  · exact h3 e (by omega) (by omega) hco
theorem ord_gen {g k : Nat} (hg : g < q) (h : Ord mul g (q - 1)) (hk : 1 ≤ k) (hd : k ∣ q - 1) : Ord mul (pw mul g ((q - 1) / k)) k := fun e => by
  have hq := F.two_le
  obtain ⟨c, hc⟩ := hd
  rw [← F.pw_mul hg, h, hc, Nat.mul_div_cancel_left c (by omega), Nat.mul_comm k c]
  have hc0 : 0 < c := by
    rcases Nat.eq_zero_or_pos c with h0 | h0
    · subst h0; rw [Nat.mul_zero] at hc; omega
    · exact h0
  exact ⟨fun hh => Nat.dvd_of_mul_dvd_mul_left hc0 hh, fun hh => Nat.mul_dvd_mul_left c hh⟩
omit F in
theorem LR_uniq {k r s : Nat} (h : LR q mul k r) (h' : LR q mul k s) : r = s := Nat.le_antisymm (h.2.2 s h'.1 h'.2.1) (h'.2.2 r h.1 h.2.1)
end Fld
end Go.Proofs.YtmenkahkdcjkiaaDoor
