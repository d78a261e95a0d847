/- Plain mathematics: permutations of seven points as elements, the packing of fewer points, conjugation. -/
import Derived.Test.YtdcilefiacohnaaAlg
import Derived.Test.YtdcilefiacohnaaElem
namespace Go.Proofs.Ytdcilefiacohnaa
open Go.RowKit

/-- an element: a permutation of seven points -/
def El (a : List Int) : Prop := validL a = true ∧ a.length = 7
theorem El.e7 {a : List Int} (h : El a) : E7 a := E7_valid h.1 h.2
theorem El.mul {a b : List Int} (ha : El a) (hb : El b) : El (mulL a b) := ⟨mulL_valid ha.1 hb.1 (ha.2.trans hb.2.symm), (length_mulL a b).trans ha.2⟩
theorem El.inv {a : List Int} (ha : El a) : El (invL a) := ⟨invL_valid ha.1, (length_invL a).trans ha.2⟩
theorem El.one : El (idL 7) := ⟨idL_valid (by decide) (by decide), length_idL 7⟩
theorem El.assoc {a b : List Int} (c : List Int) (ha : El a) (hb : El b) : mulL (mulL a b) c = mulL a (mulL b c) := mulL_assoc ha.1 (ha.2.trans hb.2.symm)
theorem El.mul_one {a : List Int} (ha : El a) : mulL a (idL 7) = a := by have := mulL_one ha.1; rwa [ha.2] at this
theorem El.one_mul {a : List Int} (ha : El a) : mulL (idL 7) a = a := by have := one_mulL a; rwa [ha.2] at this
theorem El.mul_inv {a : List Int} (ha : El a) : mulL a (invL a) = idL 7 := by rw [mulL_inv ha.1, ha.2]
theorem El.inv_mul {a : List Int} (ha : El a) : mulL (invL a) a = idL 7 := by rw [inv_mulL ha.1, ha.2]
theorem El.pt {a : List Int} (ha : El a) {x : Int} : pt a x ↔ 0 ≤ x ∧ x < 7 := by unfold Go.Proofs.Ytdcilefiacohnaa.pt; rw [ha.2]; rfl
theorem El.ext {a b : List Int} (ha : El a) (hb : El b) (h : ∀ x, 0 ≤ x → x < 7 → im a x = im b x) : a = b :=
  ext_im (ha.2.trans hb.2.symm) (fun x hx => h x (ha.pt.1 hx).1 (ha.pt.1 hx).2)

/-- conjugation, as the program's loop makes it -/
theorem cjTo_get {a b : List Int} (hb : El b) (k : Nat) (hk : k ≤ 7) : ∀ i, i < k → im (cjTo a b k) (im b (i : Int)) = im b (im a (i : Int)) := by
  induction k with
  | zero => intro i hi; omega
  | succ k ih =>
    intro i hi
    have pk : Go.Proofs.Ytdcilefiacohnaa.pt b (k : Int) := hb.pt.2 ⟨by omega, by omega⟩
    have pi : Go.Proofs.Ytdcilefiacohnaa.pt b (i : Int) := hb.pt.2 ⟨by omega, by omega⟩
    have qk := im_pt hb.1 pk
    have qi := im_pt hb.1 pi
    obtain ⟨b0, b1⟩ := hb.pt.1 qi
    have hl := length_cjTo a b k
    by_cases e : i = k
    · subst e
      rw [cjTo]
      have := getD_set (cjTo a b i) (im b (i : Int)).toNat (im b (i : Int)).toNat (im b (im a (i : Int)))
      rw [if_pos ⟨rfl, by omega⟩] at this
      exact this
    · have hne : (im b (k : Int)).toNat ≠ (im b (i : Int)).toNat := by
        intro e2
        obtain ⟨a0, _⟩ := hb.pt.1 qk
        exact e (by have := im_inj hb.1 pi pk (by omega); omega)
      have h2 := ih (by omega) i (by omega)
      rw [cjTo]
      have := getD_set (cjTo a b k) (im b (k : Int)).toNat (im b (i : Int)).toNat (im b (im a (k : Int)))
      rw [if_neg (fun h => hne h.1)] at this
      exact this.trans h2
/-- the inverse of b, a and b, in this order -/
def conjL (a b : List Int) : List Int := mulL (mulL (invL b) a) b
theorem El.conj {a b : List Int} (ha : El a) (hb : El b) : El (conjL a b) := (hb.inv.mul ha).mul hb
theorem cjTo_eq {a b : List Int} (ha : El a) (hb : El b) : cjTo a b 7 = conjL a b := by
  have hc := ha.conj hb
  refine ext_im ((length_cjTo a b 7).trans hc.2.symm) (fun x hx => ?_)
  have hx' : Go.Proofs.Ytdcilefiacohnaa.pt b x := by
    unfold Go.Proofs.Ytdcilefiacohnaa.pt at hx ⊢
    rw [length_cjTo] at hx
    rw [hb.2]; exact hx
  obtain ⟨hy, e⟩ := inv_im hb.1 hx'
  obtain ⟨y0, y1⟩ := hb.pt.1 hy
  obtain ⟨i, hi⟩ := Int.eq_ofNat_of_zero_le y0
  have h1 := cjTo_get (a := a) hb 7 (Nat.le_refl _) i (by omega)
  rw [← hi, e] at h1
  rw [h1]
  unfold conjL
  have p1 : Go.Proofs.Ytdcilefiacohnaa.pt (mulL (invL b) a) x := by unfold Go.Proofs.Ytdcilefiacohnaa.pt; rw [length_mulL, length_invL]; exact hx'
  have p2 : Go.Proofs.Ytdcilefiacohnaa.pt (invL b) x := by unfold Go.Proofs.Ytdcilefiacohnaa.pt; rw [length_invL]; exact hx'
  rw [im_mulL p1, im_mulL p2]

/-- a permutation of fewer points fixes the others -/
def pk7 (p : List Int) : List Int := p ++ (idL 7).drop p.length
theorem length_pk7 {p : List Int} (h : p.length ≤ 7) : (pk7 p).length = 7 := by unfold pk7; rw [List.length_append, List.length_drop, length_idL]; omega
theorem im_pk7_in {p : List Int} {x : Int} (hx : pt p x) : im (pk7 p) x = im p x := by
  obtain ⟨h0, h1⟩ := hx
  unfold im pk7
  have : x.toNat < p.length := by omega
  rw [List.getD_eq_getElem?_getD, List.getElem?_append_left this, ← List.getD_eq_getElem?_getD]
theorem im_pk7_out {p : List Int} (hp : p.length ≤ 7) {x : Int} (h0 : (p.length : Int) ≤ x) (h1 : x < 7) : im (pk7 p) x = x := by
  obtain ⟨n, rfl⟩ := Int.eq_ofNat_of_zero_le (show 0 ≤ x by omega)
  unfold im pk7
  have e : ((n : Int)).toNat = n := rfl
  rw [e, List.getD_eq_getElem?_getD, List.getElem?_append_right (by omega), List.getElem?_drop, show p.length + (n - p.length) = n by omega, ← List.getD_eq_getElem?_getD, idL_get 7 n (by omega)]
theorem pk7_el {p : List Int} (h : validL p = true) : El (pk7 p) := by
  have h7 := ((validL_iff p).1 h).2.1
  have hl := length_pk7 h7
  have hpt : ∀ x, pt (pk7 p) x ↔ 0 ≤ x ∧ x < 7 := fun x => by unfold pt; rw [hl]; rfl
  have him : ∀ x, 0 ≤ x → x < 7 → (x < (p.length : Int) ∧ im (pk7 p) x = im p x ∧ 0 ≤ im p x ∧ im p x < (p.length : Int)) ∨ ((p.length : Int) ≤ x ∧ im (pk7 p) x = x) := fun x h0 h1 => by
    by_cases hx : x < (p.length : Int)
    · have := im_pt h ⟨h0, hx⟩
      exact .inl ⟨hx, im_pk7_in ⟨h0, hx⟩, this.1, this.2⟩
    · exact .inr ⟨by omega, im_pk7_out h7 (by omega) h1⟩
  refine ⟨validL_of_inj (by omega) (by omega) ?_ ?_, hl⟩
  · intro x hx
    rw [hpt] at hx ⊢
    rcases him x hx.1 hx.2 with ⟨_, e, h2, h3⟩ | ⟨_, e⟩ <;> rw [e] <;> omega
  · intro x y hx hy e
    rw [hpt] at hx hy
    rcases him x hx.1 hx.2 with ⟨a1, a2, a3, a4⟩ | ⟨a1, a2⟩ <;> rcases him y hy.1 hy.2 with ⟨b1, b2, b3, b4⟩ | ⟨b1, b2⟩
    · rw [a2, b2] at e; exact im_inj h ⟨hx.1, a1⟩ ⟨hy.1, b1⟩ e
    · rw [a2, b2] at e; omega
    · rw [a2, b2] at e; omega
    · rw [a2, b2] at e; exact e
theorem pk7_mul {p q : List Int} (hp : validL p = true) (hq : validL q = true) (hl : p.length = q.length) : pk7 (mulL p q) = mulL (pk7 p) (pk7 q) := by
  have h7 := ((validL_iff p).1 hp).2.1
  have hm := mulL_valid hp hq hl
  have hml := length_mulL p q
  refine (pk7_el hm).ext ((pk7_el hp).mul (pk7_el hq)) (fun x h0 h1 => ?_)
  rw [im_mulL ((pk7_el hp).pt.2 ⟨h0, h1⟩)]
  by_cases hx : x < (p.length : Int)
  · have hx1 : pt p x := ⟨h0, hx⟩
    have hx2 : pt (mulL p q) x := ⟨h0, by rw [hml]; exact hx⟩
    have := im_pt hp hx1
    rw [im_pk7_in hx2, im_mulL hx1, im_pk7_in hx1, im_pk7_in ⟨this.1, by rw [← hl]; exact this.2⟩]
  · rw [im_pk7_out (by rw [hml]; exact h7) (by rw [hml]; omega) h1, im_pk7_out h7 (by omega) h1, im_pk7_out (by omega) (by omega) h1]
theorem pk7_id {n : Nat} (h7 : n ≤ 7) : pk7 (idL n) = idL 7 := by
  apply ext_im
  · rw [length_pk7 (by rw [length_idL]; exact h7), length_idL]
  intro x hx
  unfold pt at hx
  rw [length_pk7 (by rw [length_idL]; exact h7)] at hx
  by_cases hn : x < (n : Int)
  · rw [im_pk7_in ⟨hx.1, by rw [length_idL]; exact hn⟩, im_idL hx.1 hn, im_idL hx.1 (by omega)]
  · rw [im_pk7_out (by rw [length_idL]; exact h7) (by rw [length_idL]; omega) (by omega), im_idL hx.1 (by omega)]
/-- the first n images: back from the packing -/
def upk (n : Nat) (a : List Int) : List Int := a.take n
theorem upk_pk7 (p : List Int) : upk p.length (pk7 p) = p := by unfold upk pk7; rw [List.take_left']; rfl
theorem pk7_inj {p q : List Int} (hl : p.length = q.length) (h : pk7 p = pk7 q) : p = q := by
  rw [← upk_pk7 p, ← upk_pk7 q, h, hl]
end Go.Proofs.Ytdcilefiacohnaa
