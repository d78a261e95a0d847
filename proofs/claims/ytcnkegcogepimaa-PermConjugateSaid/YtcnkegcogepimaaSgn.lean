/- Plain mathematics: parities add up. -/
import Derived.Test.YtcnkegcogepimaaParL
import Derived.Test.YtcnkegcogepimaaAlg
import Derived.Test.YtcnkegcogepimaaRefB
namespace Go.Proofs.Ytcnkegcogepimaa
open Go.RowKit

/-- inversions, counted from the front -/
def inv : List Int → Nat
  | [] => 0
  | x :: l => cntL l x + inv l

theorem inv_snoc (l : List Int) (y : Int) : inv (l ++ [y]) = inv l + gtL l y := by
  induction l with
  | nil => simp [inv, cntL, gtL]
  | cons x l ih =>
    have h1 : cntL (l ++ [y]) x = cntL l x + if y < x then 1 else 0 := by
      unfold cntL
      rw [List.filter_append]
      by_cases h : y < x <;> simp [h]
    have h2 : gtL (x :: l) y = (if y < x then 1 else 0) + gtL l y := by
      unfold gtL
      by_cases h : y < x <;> simp [h] <;> omega
    rw [List.cons_append, inv, ih, h1, h2, inv]
    omega
theorem ivTo_inv (p : List Int) (k : Nat) : k ≤ p.length → ivTo p k = inv (p.take k) := by
  induction k with
  | zero => intro _; simp [ivTo, inv]
  | succ k ih =>
    intro hk
    rw [ivTo, ih (by omega), List.take_succ_eq_append_getElem hk, inv_snoc]
    simp [show k < p.length from hk]
theorem ivL_inv (p : List Int) : ivL p = inv p := by
  unfold ivL
  rw [ivTo_inv p _ (Nat.le_refl _), List.take_length]

theorem inv_perm (g : Int → Int) {l m : List Int} (h : l.Perm m) : l.Nodup → (∀ x y, x ∈ l → y ∈ l → g x = g y → x = y) → (inv (l.map g) + inv l) % 2 = (inv (m.map g) + inv m) % 2 := by
  induction h with
  | nil => intros; rfl
  | cons x hp ih =>
    intro hn hi
    have h1 := ih (List.nodup_cons.1 hn).2 (fun a b ha hb => hi a b (List.mem_cons_of_mem _ ha) (List.mem_cons_of_mem _ hb))
    simp only [List.map_cons, inv]
    rw [cntL_perm hp, cntL_perm (hp.map g)]
    omega
  | swap x y l =>
    intro hn hi
    have hxy : x ≠ y := by
      intro e
      subst e
      simp at hn
    have hg : g x ≠ g y := fun e => hxy (hi x y (by simp) (by simp) e)
    have c : ∀ (l : List Int) (a b : Int), cntL (a :: l) b = (if a < b then 1 else 0) + cntL l b := fun l a b => by
      unfold cntL
      by_cases h : a < b <;> simp [h]; omega
    simp only [List.map_cons, inv, c]
    have h1 : (if x < y then 1 else 0) + (if y < x then 1 else 0) = 1 := by
      by_cases h : x < y
      · rw [if_pos h, if_neg (by omega)]
      · rw [if_neg h, if_pos (by omega)]
    have h2 : (if g x < g y then 1 else 0) + (if g y < g x then 1 else 0) = 1 := by
      by_cases h : g x < g y
      · rw [if_pos h, if_neg (by omega)]
      · rw [if_neg h, if_pos (by omega)]
    omega
  | trans h1 h2 ih1 ih2 =>
    intro hn hi
    rw [ih1 hn hi]
    exact ih2 (h1.nodup_iff.1 hn) (fun a b ha hb => hi a b (h1.mem_iff.2 ha) (h1.mem_iff.2 hb))

theorem inv_sorted {l : List Int} (h : l.Pairwise (· < ·)) : inv l = 0 := by
  induction l with
  | nil => rfl
  | cons x l ih =>
    obtain ⟨h1, h2⟩ := List.pairwise_cons.1 h
    rw [inv, ih h2]
    unfold cntL
    have : l.filter (fun y => decide (y < x)) = [] := by
      rw [List.filter_eq_nil_iff]
      intro y hy
      have := h1 y hy
      simp
      omega
    rw [this]
    rfl

theorem sgn_mul {p q : List Int} (hp : validL p = true) (hq : validL q = true) (hl : p.length = q.length) : (inv (mulL p q) + inv p) % 2 = inv q % 2 := by
  have hvp := (validL_iff p).1 hp
  have h := inv_perm (fun x => q.getD x.toNat 0) (valid_perm hp) hvp.2.2.2 (fun x y hx hy e => by
    have ptx : ∀ z, z ∈ p → pt q z := fun z hz => by
      have := hvp.2.2.1 z hz
      exact ⟨this.1, by rw [← hl]; exact this.2⟩
    exact im_inj hq (ptx x hx) (ptx y hy) e)
  have e : (idL p.length).map (fun x => q.getD x.toNat 0) = q := by
    rw [hl]
    exact one_mulL q
  rw [e, inv_sorted (idL_sorted _)] at h
  exact h
theorem par_inv {p : List Int} (h : validL p = true) : parL p = inv p % 2 := by rw [par_iv h, ivL_inv]
theorem par_mul {p q : List Int} (hp : validL p = true) (hq : validL q = true) (hl : p.length = q.length) : parL (mulL p q) = (parL p + parL q) % 2 := by
  have := sgn_mul hp hq hl
  rw [par_inv (mulL_valid hp hq hl), par_inv hp, par_inv hq]
  omega
theorem par_id {n : Nat} (h1 : 1 ≤ n) (h7 : n ≤ 7) : parL (idL n) = 0 := by
  rw [par_inv (idL_valid h1 h7), inv_sorted (idL_sorted _)]
theorem par_of_inv {p : List Int} (h : validL p = true) : parL (invL p) = parL p := by
  have h1 := par_mul h (invL_valid h) (length_invL p).symm
  have hv := (validL_iff p).1 h
  rw [mulL_inv h, par_id hv.1 hv.2.1] at h1
  have a : parL p < 2 := Nat.mod_lt _ (by decide)
  have b : parL (invL p) < 2 := Nat.mod_lt _ (by decide)
  omega
theorem par_comm {p q : List Int} (hp : validL p = true) (hq : validL q = true) (hl : p.length = q.length) : parL (mulL (mulL (invL p) (invL q)) (mulL p q)) = 0 := by
  have hl2 : (invL p).length = (invL q).length := by rw [length_invL, length_invL, hl]
  rw [par_mul (mulL_valid (invL_valid hp) (invL_valid hq) hl2) (mulL_valid hp hq hl) (by rw [length_mulL, length_mulL, length_invL]),
    par_mul (invL_valid hp) (invL_valid hq) hl2, par_mul hp hq hl, par_of_inv hp, par_of_inv hq]
  omega

/-- cycles of one point add nothing to the least common multiple -/
theorem lcm_long (l : List (List Int)) : ∀ a : Nat, (∀ c, c ∈ l → 1 ≤ c.length) → (l.filter fun c => decide (1 < c.length)).foldl (fun o c => Nat.lcm o c.length) a = l.foldl (fun o c => Nat.lcm o c.length) a := by
  induction l with
  | nil => intro a _; rfl
  | cons c l ih =>
    intro a h
    have h1 := h c (by simp)
    by_cases e : 1 < c.length
    · rw [List.filter_cons_of_pos (by simp [e])]
      exact ih _ (fun c hc => h c (by simp [hc]))
    · rw [List.filter_cons_of_neg (by simp [e]), List.foldl_cons, show c.length = 1 by omega, Nat.lcm_one_right]
      exact ih _ (fun c hc => h c (by simp [hc]))
end Go.Proofs.Ytcnkegcogepimaa
