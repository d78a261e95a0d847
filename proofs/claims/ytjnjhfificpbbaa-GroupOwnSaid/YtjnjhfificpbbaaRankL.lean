/- Plain mathematics of ranks: ranking undoes unranking, and keeps the order; nothing here speaks of the program. -/
import Derived.Test.YtjnjhfificpbbaaUnr
import Derived.Test.YtjnjhfificpbbaaAlg
namespace Go.Proofs.Ytjnjhfificpbbaa
open Go.RowKit

def cntL (l : List Int) (b : Int) : Nat := (l.filter fun x => decide (x < b)).length
/-- the rank of the first k points -/
def rankTo (p : List Int) : Nat → Nat
  | 0 => 0
  | k + 1 => rankTo p k * (p.length - k) + cntL (p.drop (k + 1)) (p.getD k 0)
def rankL (p : List Int) : Nat := rankTo p p.length
def lessL : List Int → List Int → Bool
  | a :: l, b :: m => if a = b then lessL l m else decide (a < b)
  | [], _ :: _ => true
  | _, [] => false

/-- the rank, from the front -/
def rk : List Int → Nat
  | [] => 0
  | x :: l => cntL l x * fact l.length + rk l

theorem rankTo_rk (p : List Int) (k : Nat) : k ≤ p.length → rankTo p k * fact (p.length - k) + rk (p.drop k) = rk p := by
  induction k with
  | zero => intro _; simp [rankTo]
  | succ k ih =>
    intro hk
    rw [← ih (by omega), rankTo]
    have e : p.length - k = (p.length - (k + 1)) + 1 := by omega
    rw [show p.drop k = p.getD k 0 :: p.drop (k + 1) from by rw [List.drop_eq_getElem_cons (by omega)]; simp [show k < p.length by omega], rk, List.length_drop, e, fact]
    rw [Nat.add_mul, Nat.mul_assoc, Nat.add_assoc]
theorem rankL_rk (p : List Int) : rankL p = rk p := by
  have := rankTo_rk p p.length (Nat.le_refl _)
  simpa [rk, fact, rankL] using this

theorem unr_perm (k : Nat) : ∀ (R : List Int) (r : Nat), R.length = k → r < fact k → (unr k R r).Perm R := by
  induction k with
  | zero => intro R r h _; obtain rfl := List.length_eq_zero_iff.1 h; exact List.Perm.refl _
  | succ k ih =>
    intro R r h hr
    have f1 : 0 < fact k := Nat.pos_of_ne_zero (fun e => by rw [fact, e] at hr; omega)
    have hd : r / fact k < R.length := by rw [h]; exact (Nat.div_lt_iff_lt_mul f1).2 hr
    rw [unr]
    refine List.Perm.trans (List.Perm.cons _ (ih _ _ (by rw [List.length_eraseIdx, if_pos hd]; omega) (Nat.mod_lt _ f1))) ?_
    have e : R = R.take (r / fact k) ++ R.getD (r / fact k) 0 :: R.drop (r / fact k + 1) := by
      have e2 : R.getD (r / fact k) 0 = R[r / fact k] := by simp [hd]
      rw [e2, ← List.drop_eq_getElem_cons hd, List.take_append_drop]
    rw [List.eraseIdx_eq_take_drop_succ]
    exact (List.perm_middle.symm).trans (List.Perm.of_eq e.symm)

theorem cntL_perm {l m : List Int} (h : l.Perm m) (b : Int) : cntL l b = cntL m b := (h.filter _).length_eq
theorem cntL_sorted {R : List Int} (h : R.Pairwise (· < ·)) {d : Nat} (hd : d < R.length) : cntL (R.eraseIdx d) (R.getD d 0) = d := by
  have hp := List.pairwise_iff_getElem.1 h
  have h1 : (R.take d).filter (fun x => decide (x < R.getD d 0)) = R.take d := by
    rw [List.filter_eq_self]
    intro x hx
    obtain ⟨i, hi, rfl⟩ := List.mem_take_iff_getElem.1 hx
    have := hp i d (by omega) hd (by omega)
    simpa [hd] using this
  have h2 : (R.drop (d + 1)).filter (fun x => decide (x < R.getD d 0)) = [] := by
    rw [List.filter_eq_nil_iff]
    intro x hx
    obtain ⟨i, hi, rfl⟩ := List.mem_drop_iff_getElem.1 hx
    have := hp d (d + 1 + i) hd (by omega) (by omega)
    have e : R.getD d 0 = R[d] := by simp [hd]
    rw [e]
    simp
    first | omega | (rw [show i + (d + 1) = d + 1 + i from by omega] ; omega)
  unfold cntL
  rw [List.eraseIdx_eq_take_drop_succ, List.filter_append, h1, h2]
  simp
  omega

theorem rk_unr (k : Nat) : ∀ (R : List Int) (r : Nat), R.length = k → R.Pairwise (· < ·) → r < fact k → rk (unr k R r) = r := by
  induction k with
  | zero => intro R r _ _ hr; simp [fact] at hr; subst hr; rfl
  | succ k ih =>
    intro R r h hs hr
    have f1 : 0 < fact k := Nat.pos_of_ne_zero (fun e => by rw [fact, e] at hr; omega)
    have hd : r / fact k < R.length := by rw [h]; exact (Nat.div_lt_iff_lt_mul f1).2 hr
    have hl : (R.eraseIdx (r / fact k)).length = k := by rw [List.length_eraseIdx, if_pos hd]; omega
    rw [unr, rk, length_unr, cntL_perm (unr_perm k _ _ hl (Nat.mod_lt _ f1)), cntL_sorted hs hd, ih _ _ hl (hs.sublist (List.eraseIdx_sublist _ _)) (Nat.mod_lt _ f1), Nat.mul_comm]
    exact Nat.div_add_mod r (fact k)

theorem less_unr (k : Nat) : ∀ (R : List Int) (a b : Nat), R.length = k → R.Pairwise (· < ·) → a < fact k → b < fact k → lessL (unr k R a) (unr k R b) = decide (a < b) := by
  induction k with
  | zero => intro R a b _ _ ha hb; simp [fact] at ha hb; subst ha hb; rfl
  | succ k ih =>
    intro R a b h hs ha hb
    have f1 : 0 < fact k := Nat.pos_of_ne_zero (fun e => by rw [fact, e] at ha; omega)
    have hda : a / fact k < R.length := by rw [h]; exact (Nat.div_lt_iff_lt_mul f1).2 ha
    have hdb : b / fact k < R.length := by rw [h]; exact (Nat.div_lt_iff_lt_mul f1).2 hb
    have ea := Nat.div_add_mod a (fact k)
    have eb := Nat.div_add_mod b (fact k)
    have ma := Nat.mod_lt a f1
    have mb := Nat.mod_lt b f1
    have hp := List.pairwise_iff_getElem.1 hs
    rw [unr, unr, lessL]
    by_cases e : a / fact k = b / fact k
    · rw [e, if_pos rfl, ih _ _ _ (by rw [List.length_eraseIdx, if_pos hdb]; omega) (hs.sublist (List.eraseIdx_sublist _ _)) ma mb]
      rw [e] at ea
      rw [decide_eq_decide]
      omega
    · have hne : R.getD (a / fact k) 0 ≠ R.getD (b / fact k) 0 := by
        intro h2
        simp [hda, hdb] at h2
        rcases Nat.lt_or_gt_of_ne e with h3 | h3
        · have := hp _ _ hda hdb h3; omega
        · have := hp _ _ hdb hda h3; omega
      rw [if_neg hne, decide_eq_decide]
      simp only [List.getD_eq_getElem?_getD, List.getElem?_eq_getElem hda, List.getElem?_eq_getElem hdb, Option.getD_some]
      rcases Nat.lt_or_gt_of_ne e with h3 | h3
      · have h4 := hp _ _ hda hdb h3
        have : a < b := by
          apply Classical.byContradiction
          intro h5
          have := Nat.div_le_div_right (c := fact k) (show b ≤ a by omega)
          omega
        exact ⟨fun _ => this, fun _ => h4⟩
      · have h4 := hp _ _ hdb hda h3
        have : b < a := by
          apply Classical.byContradiction
          intro h5
          have := Nat.div_le_div_right (c := fact k) (show a ≤ b by omega)
          omega
        exact ⟨fun h => by omega, fun h => by omega⟩

theorem idL_sorted (n : Nat) : (idL n).Pairwise (· < ·) := by
  rw [List.pairwise_iff_getElem]
  intro i j hi hj h
  simp [idL]
  omega
theorem unrL_valid {n r : Nat} (h1 : 1 ≤ n) (h7 : n ≤ 7) (hr : r < fact n) : validL (unrL n r) = true := by
  have hp := unr_perm n (idL n) r (length_idL n) hr
  have hv := (validL_iff _).1 (idL_valid h1 h7)
  rw [validL_iff]
  refine ⟨by rw [unrL, length_unr]; exact h1, by rw [unrL, length_unr]; exact h7, fun x hx => ?_, ?_⟩
  · have := hv.2.2.1 x (hp.mem_iff.1 hx)
    rw [length_idL] at this
    rw [unrL, length_unr]; exact this
  · exact hp.nodup_iff.2 hv.2.2.2
theorem rank_unrL {n r : Nat} (hr : r < fact n) : rankL (unrL n r) = r := by
  rw [rankL_rk]; exact rk_unr n (idL n) r (length_idL n) (idL_sorted n) hr
theorem less_unrL {n a b : Nat} (ha : a < fact n) (hb : b < fact n) : lessL (unrL n a) (unrL n b) = decide (a < b) := less_unr n (idL n) a b (length_idL n) (idL_sorted n) ha hb

end Go.Proofs.Ytjnjhfificpbbaa
