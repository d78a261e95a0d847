/- Plain mathematics: powers of a permutation, and its order as the least common multiple of the lengths of its cycles; nothing here speaks of the program. -/
import Derived.Test.YtjnjhfificpbbaaCycL
import Derived.Test.YtjnjhfificpbbaaAlg
namespace Go.Proofs.Ytjnjhfificpbbaa
open Go.RowKit

/-- the product of k factors p -/
def powL (p : List Int) : Nat → List Int
  | 0 => idL p.length
  | k + 1 => mulL (powL p k) p
theorem length_powL (p : List Int) (k : Nat) : (powL p k).length = p.length := by
  induction k with
  | zero => exact length_idL _
  | succ k ih => rw [powL, length_mulL, ih]
theorem powL_valid {p : List Int} (h : validL p = true) (k : Nat) : validL (powL p k) = true := by
  induction k with
  | zero => exact idL_valid ((validL_iff p).1 h).1 ((validL_iff p).1 h).2.1
  | succ k ih => exact mulL_valid ih h (length_powL p k)
theorem im_powL {p : List Int} {x : Int} (hx : pt p x) (k : Nat) : im (powL p k) x = sq p x k := by
  induction k with
  | zero => exact im_idL hx.1 hx.2
  | succ k ih => rw [powL, im_mulL ((pt_len (length_powL p k) x).2 hx), ih]; rfl
theorem powL_one (p : List Int) : powL p 1 = p := one_mulL p

theorem sq_mul {p : List Int} {x : Int} {d : Nat} (h : sq p x d = x) (m : Nat) : sq p x (d * m) = x := by
  induction m with
  | zero => rfl
  | succ m ih => rw [Nat.mul_succ, sq_add, ih, h]
theorem sq_dvd {p : List Int} (h : validL p = true) {x : Int} (hx : pt p x) (k : Nat) : sq p x k = x ↔ per p x ∣ k := by
  obtain ⟨_, hb, hn⟩ := per_spec h hx
  constructor
  · intro e
    have hk := Nat.div_add_mod k (per p x)
    rw [← hk, sq_add, sq_mul hb] at e
    have hlt : k % per p x < per p x := Nat.mod_lt _ (by unfold per; omega)
    rcases Nat.eq_zero_or_pos (k % per p x) with h0 | h0
    · exact Nat.dvd_of_mod_eq_zero h0
    · exact absurd e (hn _ h0 hlt)
  · rintro ⟨m, rfl⟩
    exact sq_mul hb m
theorem per_mem {p : List Int} (h : validL p = true) {x y : Int} (hx : pt p x) (hy : y ∈ cyL p x) : per p y = per p x := by
  obtain ⟨i, _, rfl⟩ := List.mem_map.1 hy
  have hp := sq_pt h hx i
  have key : ∀ k, per p (sq p x i) ∣ k ↔ per p x ∣ k := fun k => by
    rw [← sq_dvd h hp, ← sq_dvd h hx, ← sq_add]
    constructor
    · intro e; exact sq_back h hx k i e
    · intro e; rw [Nat.add_comm, sq_add, e]
  exact Nat.dvd_antisymm ((key _).2 (Nat.dvd_refl _)) ((key _).1 (Nat.dvd_refl _))

theorem cyL_self (p : List Int) (x : Int) : x ∈ cyL p x := List.mem_map.2 ⟨0, by simp [per], rfl⟩
theorem cyTo_cover (p : List Int) (k : Nat) : (∀ x : Nat, x < k → (x : Int) ∈ (cyTo p k).2) ∧ (∀ y, y ∈ (cyTo p k).2 → ∃ x : Nat, x < k ∧ cyL p x ∈ (cyTo p k).1 ∧ y ∈ cyL p x) := by
  induction k with
  | zero => exact ⟨fun x hx => by omega, fun y hy => by simp [cyTo] at hy⟩
  | succ k ih =>
    by_cases hm : (k : Int) ∈ (cyTo p k).2
    · rw [cyTo_old hm]
      refine ⟨fun x hx => ?_, fun y hy => ?_⟩
      · by_cases e : x = k
        · subst e; exact hm
        · exact ih.1 x (by omega)
      · obtain ⟨x, hx, h1, h2⟩ := ih.2 y hy
        exact ⟨x, by omega, h1, h2⟩
    · rw [cyTo_new hm]
      refine ⟨fun x hx => ?_, fun y hy => ?_⟩
      · by_cases e : x = k
        · subst e; exact List.mem_append_right _ (cyL_self p x)
        · exact List.mem_append_left _ (ih.1 x (by omega))
      · rcases List.mem_append.1 hy with hy | hy
        · obtain ⟨x, hx, h1, h2⟩ := ih.2 y hy
          exact ⟨x, by omega, List.mem_append_left _ h1, h2⟩
        · exact ⟨k, by omega, List.mem_append_right _ (by simp), hy⟩

theorem foldl_lcm (l : List (List Int)) : ∀ a : Nat, a ∣ l.foldl (fun o c => Nat.lcm o c.length) a ∧ (∀ c, c ∈ l → c.length ∣ l.foldl (fun o c => Nat.lcm o c.length) a) ∧ (∀ k, a ∣ k → (∀ c, c ∈ l → c.length ∣ k) → l.foldl (fun o c => Nat.lcm o c.length) a ∣ k) := by
  induction l with
  | nil => intro a; exact ⟨Nat.dvd_refl _, fun c h => by simp at h, fun k h _ => h⟩
  | cons b l ih =>
    intro a
    obtain ⟨h1, h2, h3⟩ := ih (Nat.lcm a b.length)
    simp only [List.foldl_cons]
    refine ⟨Nat.dvd_trans (Nat.dvd_lcm_left _ _) h1, fun c hc => ?_, fun k ha hall => h3 k (Nat.lcm_dvd ha (hall b (by simp))) (fun c hc => hall c (by simp [hc]))⟩
    rcases List.mem_cons.1 hc with e | hc
    · subst e; exact Nat.dvd_trans (Nat.dvd_lcm_right _ _) h1
    · exact h2 c hc

def ordL' (p : List Int) : Nat := (cyc p).foldl (fun o c => Nat.lcm o c.length) 1
theorem ord_dvd {p : List Int} (h : validL p = true) (k : Nat) : ordL' p ∣ k ↔ powL p k = idL p.length := by
  obtain ⟨_, h2, h3⟩ := foldl_lcm (cyc p) 1
  constructor
  · intro hd
    apply ext_im
    · rw [length_powL, length_idL]
    · intro x hx
      rw [pt_len (length_powL p k)] at hx
      rw [im_powL hx, im_idL hx.1 hx.2, sq_dvd h hx]
      obtain ⟨hx0, hx1⟩ := hx
      obtain ⟨i, rfl⟩ := Int.eq_ofNat_of_zero_le hx0
      obtain ⟨y, hy, hc, hm⟩ := (cyTo_cover p p.length).2 (i : Int) ((cyTo_cover p p.length).1 i (by omega))
      have hl := h2 _ hc
      rw [length_cyL] at hl
      rw [per_mem h ⟨by omega, by omega⟩ hm]
      exact Nat.dvd_trans hl hd
  · intro e
    refine h3 k (Nat.one_dvd k) (fun c hc => ?_)
    obtain ⟨x, hx, rfl⟩ := cyTo_mem p p.length c hc
    have hp : pt p (x : Int) := ⟨by omega, by omega⟩
    rw [length_cyL, ← sq_dvd h hp, ← im_powL hp, e]
    exact im_idL hp.1 hp.2

end Go.Proofs.Ytjnjhfificpbbaa
