/- Plain mathematics: the numbers modulo a prime, and the polynomials modulo an irreducible one, are fields. -/
import Derived.Test.YtmenkahkdcjkiaaDoorCl
import Derived.Test.YtmenkahkdcjkiaaDoorPrm
import Derived.Test.YtmenkahkdcjkiaaDoorFld
namespace Go.Proofs.YtmenkahkdcjkiaaDoor

theorem dvd_mod {p : Nat} {x y : Nat} (h : (p : Int) ∣ (x : Int) - y) : x % p = y % p := by
  have := Int.emod_emod_of_dvd
  have h2 := Int.emod_eq_emod_iff_emod_sub_eq_zero.2 (Int.emod_eq_zero_of_dvd h)
  have h3 : ((x % p : Nat) : Int) = ((y % p : Nat) : Int) := by rw [Int.natCast_emod, Int.natCast_emod]; exact h2
  exact Int.ofNat.inj h3

theorem prime_inv {p : Nat} (hp : primeB p = true) : ∀ a : Nat, a < p → a ≠ 0 → ∃ b : Int, (p : Int) ∣ b * a - 1 := by
  intro a
  obtain ⟨h2, hd⟩ := (primeB_iff p).1 hp
  induction a using Nat.strongRecOn with
  | _ a ih =>
    intro ha h0
    by_cases h1 : a = 1
    · subst h1; exact ⟨1, by simp⟩
    · have hr : p % a < a := Nat.mod_lt _ (by omega)
      obtain ⟨v, hv⟩ := ih (p % a) hr (by omega) (hd a ha (by omega))
      refine ⟨-(v * ((p / a : Nat) : Int)), ?_⟩
      have e : ((p % a : Nat) : Int) = p - (a : Int) * ((p / a : Nat) : Int) := by
        have := Nat.div_add_mod p a
        have h3 : (p : Int) = (a : Int) * ((p / a : Nat) : Int) + ((p % a : Nat) : Int) := by
          rw [← Int.natCast_mul, ← Int.natCast_add, this]
        omega
      rw [e] at hv
      have e2 : -(v * ((p / a : Nat) : Int)) * (a : Int) - 1 = (v * ((p : Int) - (a : Int) * ((p / a : Nat) : Int)) - 1) - v * (p : Int) := by
        rw [Int.mul_sub, Int.neg_mul, Int.mul_assoc, Int.mul_comm (((p / a : Nat)) : Int) (a : Int)]; omega
      rw [e2]
      exact Int.dvd_sub hv (Int.dvd_mul_left _ _)

theorem prime_fld {p : Nat} (hp : primeB p = true) : Fld p (fun a b => (a + b) % p) (fun a b => a * b % p) where
  two_le := ((primeB_iff p).1 hp).1
  add_lt _ _ _ _ := Nat.mod_lt _ (by have := ((primeB_iff p).1 hp).1; omega)
  mul_lt _ _ _ _ := Nat.mod_lt _ (by have := ((primeB_iff p).1 hp).1; omega)
  add_comm a b _ _ := by show (a + b) % p = _; rw [Nat.add_comm]
  add_assoc a b c _ _ _ := by simp [Nat.add_assoc]
  add_zero a h := by simp [Nat.mod_eq_of_lt h]
  neg a h := by
    by_cases h0 : a = 0
    · subst h0; exact ⟨0, h, by simp⟩
    · exact ⟨p - a, by omega, by rw [show a + (p - a) = p from by omega, Nat.mod_self]⟩
  mul_comm a b _ _ := by show a * b % p = _; rw [Nat.mul_comm]
  mul_assoc a b c _ _ _ := by simp [Nat.mul_assoc]
  mul_one a h := by simp [Nat.mod_eq_of_lt h]
  distrib a b c _ _ _ := by simp [Nat.mul_add]
  inv a h h0 := by
    have h2 := ((primeB_iff p).1 hp).1
    obtain ⟨b, hb⟩ := prime_inv hp a h h0
    refine ⟨(b % (p : Int)).toNat, ?_, ?_⟩
    · have := Int.emod_lt_of_pos b (show (0 : Int) < p by omega)
      have := Int.emod_nonneg b (show (p : Int) ≠ 0 by omega)
      omega
    · have hn := Int.emod_nonneg b (show (p : Int) ≠ 0 by omega)
      have e : ((b % (p : Int)).toNat : Int) = b % (p : Int) := Int.toNat_of_nonneg hn
      have : (p : Int) ∣ ((a * (b % (p : Int)).toNat : Nat) : Int) - ((1 : Nat) : Int) := by
        rw [Int.natCast_mul, e]
        have h3 : (a : Int) * (b % (p : Int)) - ((1 : Nat) : Int) = (b * a - 1) - (p : Int) * ((b / (p : Int)) * a) := by
          have h4 := Int.mul_ediv_add_emod b p
          have h5 : b % (p : Int) = b - (p : Int) * (b / (p : Int)) := by omega
          have key : (a : Int) * ((p : Int) * (b / (p : Int))) = (p : Int) * ((b / (p : Int)) * a) := by rw [Int.mul_left_comm, Int.mul_comm (a : Int)]
          rw [h5, Int.mul_sub, Int.mul_comm (a : Int) b, key]; omega
        rw [h3]
        exact Int.dvd_sub hb (Int.dvd_mul_right _ _)
      have := dvd_mod this
      show a * (b % (p : Int)).toNat % p = 1
      rw [this, Nat.mod_eq_of_lt (by omega)]

instance (i a : Nat) : Decidable (dg i a) := inferInstanceAs (Decidable (_ ∧ _))
/-- the remainder modulo f, of degree m -/
noncomputable def rem (m f x : Nat) : Nat := if h : dg m f then Classical.choose (exists_rem h x) else 0
theorem rem_lt {m f : Nat} (h : dg m f) (x : Nat) : rem m f x < 2 ^ m := by unfold rem; rw [dif_pos h]; exact (Classical.choose_spec (exists_rem h x)).1
theorem rem_eqv {m f : Nat} (h : dg m f) (x : Nat) : Eqv f x (rem m f x) := by unfold rem; rw [dif_pos h]; exact (Classical.choose_spec (exists_rem h x)).2
theorem rem_eq {m f x r : Nat} (h : dg m f) (hr : r < 2 ^ m) (e : Eqv f x r) : rem m f x = r := Eqv.uniq h (rem_lt h x) hr ((rem_eqv h x).symm.trans e)
theorem rem_congr {m f x y : Nat} (h : dg m f) (e : Eqv f x y) : rem m f x = rem m f y := rem_eq h (rem_lt h y) (e.trans (rem_eqv h y))
theorem rem_self {m f x : Nat} (h : dg m f) (hx : x < 2 ^ m) : rem m f x = x := rem_eq h hx (Eqv.refl f x)

theorem poly_fld {m f : Nat} (hm : 1 ≤ m) (h : dg m f) (hi : Irr m f) : Fld (2 ^ m) (fun a b => a ^^^ b) (fun a b => rem m f (cl a b)) where
  two_le := by have := Nat.pow_le_pow_right (n := 2) (by omega) hm; omega
  add_lt _ _ ha hb := Nat.xor_lt_two_pow ha hb
  mul_lt _ _ _ _ := rem_lt h _
  add_comm a b _ _ := Nat.xor_comm a b
  add_assoc a b c _ _ _ := Nat.xor_assoc a b c
  add_zero a _ := Nat.xor_zero a
  neg a ha := ⟨a, ha, Nat.xor_self a⟩
  mul_comm a b _ _ := by show rem m f (cl a b) = _; rw [cl_comm]
  mul_assoc a b c _ _ _ := by
    refine rem_congr h ?_
    refine ((rem_eqv h (cl a b)).symm.cl c).trans ?_
    rw [cl_assoc]
    exact (rem_eqv h (cl b c)).lc a
  mul_one a ha := by show rem m f (cl a 1) = a; rw [cl_one, rem_self h ha]
  distrib a b c _ _ _ := by
    refine rem_eq h (Nat.xor_lt_two_pow (rem_lt h _) (rem_lt h _)) ?_
    rw [cl_xor]
    exact (rem_eqv h _).xor (rem_eqv h _)
  inv a ha h0 := by
    obtain ⟨b, hb, e⟩ := exists_inv h hm hi a ha h0
    refine ⟨b, hb, ?_⟩
    show rem m f (cl a b) = 1
    rw [cl_comm]
    have := Nat.pow_le_pow_right (n := 2) (by omega) hm
    exact rem_eq h (by omega) e

/-- the moduli -/
def modl (m : Nat) : Nat := [0, 0, 7, 11, 19, 37, 67, 131, 283, 515, 1033, 2053, 4105, 8219, 16417, 32771, 65579].getD m 0
theorem modl_dg (m : Nat) (h : 2 ≤ m) (h' : m ≤ 16) : dg m (modl m) := by
  have : ∀ m, m < 17 → 2 ≤ m → 2 ^ m ≤ modl m ∧ modl m < 2 ^ (m + 1) := by decide +kernel
  exact this m (by omega) h

/-- the remainder, computed -/
def remC (b d : Nat) : Nat → Nat → Nat
  | 0, x => x
  | i + 1, x => remC b d i (if x.testBit (d + i) then x ^^^ b <<< i else x)
theorem remC_eqv (b d : Nat) : ∀ i x, Eqv b x (remC b d i x)
  | 0, x => Eqv.refl b x
  | i + 1, x => by
    rw [remC]
    refine Eqv.trans ?_ (remC_eqv b d i _)
    split
    · exact (Eqv.shift b x i).symm
    · exact Eqv.refl b x
def smallOk (m d c : Nat) : Bool := let r := remC (2 ^ d + c) d (m - d + 1) (modl m); r != 0 && decide (r < 2 ^ d)
def smallB (m : Nat) : Bool := (List.range 9).all fun d => d == 0 || decide (m < 2 * d) || (List.range (2 ^ d)).all fun c => smallOk m d c
theorem smallB_all : ((List.range 17).all fun m => decide (m < 2) || smallB m) = true := by decide +kernel
theorem modl_small (m : Nat) (hm : m < 17) (h2 : 2 ≤ m) (d : Nat) (hd : d < 9) (h1 : 1 ≤ d) (hl : 2 * d ≤ m) (b : Nat) (hb : dg d b) : remC b d (m - d + 1) (modl m) ≠ 0 ∧ remC b d (m - d + 1) (modl m) < 2 ^ d := by
  have h := List.all_eq_true.1 smallB_all m (by simpa using hm)
  rw [Bool.or_eq_true, decide_eq_true_iff] at h
  rcases h with h | h
  · omega
  · have h3 := List.all_eq_true.1 h d (by simpa using hd)
    rw [Bool.or_eq_true, Bool.or_eq_true, beq_iff_eq, decide_eq_true_iff] at h3
    rcases h3 with (h3 | h3) | h3
    · omega
    · omega
    · have e2 : 2 ^ (d + 1) = 2 ^ d * 2 := Nat.pow_succ ..
      have hb1 := hb.1; have hb2 := hb.2
      have h4 := List.all_eq_true.1 h3 (b - 2 ^ d) (by rw [List.mem_range]; omega)
      unfold smallOk at h4
      rw [show 2 ^ d + (b - 2 ^ d) = b from by omega] at h4
      simpa using h4
theorem modl_irr (m : Nat) (h : 2 ≤ m) (h' : m ≤ 16) : Irr m (modl m) := by
  have no : ∀ d b q, 1 ≤ d → 2 * d ≤ m → dg d b → cl q b ≠ modl m := fun d b q h1 h2 hb e => by
    obtain ⟨c1, c2⟩ := modl_small m (by omega) h d (by omega) h1 h2 b hb
    have e1 := remC_eqv b d (m - d + 1) (modl m)
    have e2 : Eqv b (modl m) 0 := ⟨q, by rw [Nat.xor_zero, e]⟩
    exact c1 (Eqv.uniq hb c2 (Nat.two_pow_pos d) (e1.symm.trans e2))
  intro a q ha h1 e
  have hf := modl_dg m h h'
  have ha0 : a ≠ 0 := by omega
  have hq0 : q ≠ 0 := fun hq => by subst hq; rw [zero_cl] at e; have := hf.1; rw [← e] at this; have := Nat.two_pow_pos m; omega
  have da := dg_of_pos ha0
  have dq := dg_of_pos hq0
  have dm := dg_cl dq _ _ da
  rw [e] at dm
  have em := dg_uniq dm hf
  have hla : 1 ≤ a.log2 := by
    have := da.2
    by_cases hh : 1 ≤ a.log2
    · exact hh
    · rw [show a.log2 = 0 from by omega] at this; omega
  have hlm : a.log2 < m := by
    by_cases hh : a.log2 < m
    · exact hh
    · have := Nat.pow_le_pow_right (n := 2) (by omega) (show m ≤ a.log2 by omega)
      have := da.1; omega
  by_cases h2 : 2 * a.log2 ≤ m
  · exact no _ a q hla h2 da e
  · exact no _ q a (by omega) (by omega) dq (by rw [cl_comm]; exact e)
end Go.Proofs.YtmenkahkdcjkiaaDoor
