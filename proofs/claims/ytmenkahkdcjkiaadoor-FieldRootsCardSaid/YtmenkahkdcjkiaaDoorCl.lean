/- Plain mathematics: polynomials over the field of two elements, written as numbers; nothing here speaks of the program. -/
namespace Go.Proofs.YtmenkahkdcjkiaaDoor

theorem bit_ind {P : Nat → Prop} (h0 : P 0) (h : ∀ n, n ≠ 0 → P (n / 2) → P n) : ∀ n, P n := by
  intro n
  induction n using Nat.strongRecOn with
  | _ n ih =>
    by_cases e : n = 0
    · subst e; exact h0
    · exact h n e (ih _ (by omega))

theorem two_xor (x y : Nat) : 2 * (x ^^^ y) = 2 * x ^^^ 2 * y := by
  have := @Nat.shiftLeft_xor_distrib 1 x y
  simp only [Nat.shiftLeft_eq] at this
  rw [Nat.mul_comm 2, Nat.mul_comm 2, Nat.mul_comm 2]; simpa using this
theorem xor_cancel (x y : Nat) : x ^^^ (x ^^^ y) = y := by rw [← Nat.xor_assoc, Nat.xor_self, Nat.zero_xor]
theorem xor_swap (a b c d : Nat) : (a ^^^ b) ^^^ (c ^^^ d) = (a ^^^ c) ^^^ (b ^^^ d) := by
  rw [Nat.xor_assoc, Nat.xor_assoc, ← Nat.xor_assoc b c d, Nat.xor_comm b c, Nat.xor_assoc c b d]
theorem bit_eq {x y : Nat} (h1 : x / 2 = y / 2) (h2 : x % 2 = 1 ↔ y % 2 = 1) : x = y := by omega

def lo (b a : Nat) : Nat := if b % 2 = 1 then a else 0
theorem lo_xor_left (b c a : Nat) : lo (b ^^^ c) a = lo b a ^^^ lo c a := by
  unfold lo
  by_cases h1 : b % 2 = 1 <;> by_cases h2 : c % 2 = 1 <;> simp [h1, h2, Nat.xor_mod_two_eq_one]
theorem lo_xor (b x y : Nat) : lo b (x ^^^ y) = lo b x ^^^ lo b y := by
  unfold lo; split <;> simp
theorem lo_two (b x : Nat) : lo b (2 * x) = 2 * lo b x := by
  unfold lo; split <;> simp
theorem bit_split (b : Nat) : lo b 1 ^^^ 2 * (b / 2) = b := by
  apply bit_eq
  · rw [Nat.xor_div_two]
    have : lo b 1 / 2 = 0 := by unfold lo; split <;> rfl
    rw [this, Nat.zero_xor]; omega
  · rw [Nat.xor_mod_two_eq_one]
    unfold lo
    by_cases h : b % 2 = 1 <;> simp [h]

/-- the product of two polynomials -/
def cl (a b : Nat) : Nat := if h : b = 0 then 0 else lo b a ^^^ 2 * cl a (b / 2)
termination_by b
decreasing_by omega
theorem cl_zero (a : Nat) : cl a 0 = 0 := by rw [cl]; simp
theorem cl_step (a b : Nat) : cl a b = lo b a ^^^ 2 * cl a (b / 2) := by
  by_cases h : b = 0
  · subst h; simp [cl_zero, lo]
  · conv => lhs; rw [cl]
    simp [h]
theorem zero_cl (b : Nat) : cl 0 b = 0 := by
  induction b using bit_ind with
  | h0 => exact cl_zero 0
  | h n hn ih => rw [cl_step, ih]; simp [lo]
theorem xor_cl (x y b : Nat) : cl (x ^^^ y) b = cl x b ^^^ cl y b := by
  induction b using bit_ind with
  | h0 => simp [cl_zero]
  | h n hn ih => rw [cl_step (x ^^^ y) n, ih, cl_step x n, cl_step y n, lo_xor, two_xor, xor_swap]
theorem two_cl (x b : Nat) : cl (2 * x) b = 2 * cl x b := by
  induction b using bit_ind with
  | h0 => simp [cl_zero]
  | h n hn ih => rw [cl_step (2 * x) n, ih, cl_step x n, lo_two, two_xor]
theorem cl_two (a b : Nat) : cl a (2 * b) = 2 * cl a b := by
  rw [cl_step]
  have : lo (2 * b) a = 0 := by unfold lo; rw [if_neg (by omega)]
  rw [this, Nat.zero_xor]; congr 2; omega
theorem cl_xor (a b : Nat) : ∀ c, cl a (b ^^^ c) = cl a b ^^^ cl a c := by
  induction b using bit_ind with
  | h0 => intro c; simp [cl_zero]
  | h n hn ih => intro c; rw [cl_step, Nat.xor_div_two, ih, cl_step a n, cl_step a c, lo_xor_left, two_xor, xor_swap]
theorem cl_one (a : Nat) : cl a 1 = a := by rw [cl_step]; simp [lo, cl_zero]
theorem one_cl (b : Nat) : cl 1 b = b := by
  induction b using bit_ind with
  | h0 => exact cl_zero 1
  | h n hn ih => rw [cl_step, ih, bit_split]
theorem cl_lo (a b c : Nat) : cl a (lo c b) = lo c (cl a b) := by
  unfold lo; split
  · rfl
  · exact cl_zero a
theorem lo_cl (a b c : Nat) : cl (lo c a) b = lo c (cl a b) := by
  unfold lo; split
  · rfl
  · exact zero_cl b
theorem cl_comm (a : Nat) : ∀ b, cl a b = cl b a := by
  intro b
  induction b using bit_ind with
  | h0 => rw [cl_zero, zero_cl]
  | h n hn ih =>
    rw [cl_step, ih]
    conv => rhs; rw [← bit_split n]
    rw [xor_cl, lo_cl, one_cl, two_cl]
theorem cl_assoc (a b c : Nat) : cl (cl a b) c = cl a (cl b c) := by
  induction c using bit_ind with
  | h0 => simp [cl_zero]
  | h n hn ih => rw [cl_step (cl a b) n, ih, cl_step b n, cl_xor, cl_two, cl_lo]

/-- 2^i ≤ a < 2^(i + 1) -/
def dg (i a : Nat) : Prop := 2 ^ i ≤ a ∧ a < 2 ^ (i + 1)
theorem xor_div_pow_dg {n x y : Nat} (hx : x < 2 ^ n) (hy : dg n y) : dg n (x ^^^ y) := by
  have h : x ^^^ y < 2 ^ (n + 1) := Nat.xor_lt_two_pow (by rw [Nat.pow_succ]; omega) hy.2
  refine ⟨?_, h⟩
  have e : (x ^^^ y) / 2 ^ n = 1 := by
    rw [Nat.xor_div_two_pow, Nat.div_eq_of_lt hx, Nat.zero_xor]
    have h1 := hy.1; have h2 := hy.2
    rw [Nat.pow_succ] at h2
    exact Nat.div_eq_of_lt_le (by omega) (by omega)
  have := Nat.div_mul_le_self (x ^^^ y) (2 ^ n)
  rw [e] at this; omega
theorem xor_lt_of_dg {n x y : Nat} (hx : dg n x) (hy : dg n y) : x ^^^ y < 2 ^ n := by
  have e : (x ^^^ y) / 2 ^ n = 0 := by
    rw [Nat.xor_div_two_pow]
    have f : ∀ z, dg n z → z / 2 ^ n = 1 := fun z hz => by
      have h1 := hz.1; have h2 := hz.2
      rw [Nat.pow_succ] at h2
      exact Nat.div_eq_of_lt_le (by omega) (by omega)
    rw [f x hx, f y hy]; rfl
  have hp : 0 < 2 ^ n := Nat.two_pow_pos n
  rcases Nat.div_eq_zero_iff.1 e with h | h
  · omega
  · exact h
theorem dg_cl {i a : Nat} (ha : dg i a) : ∀ (j b : Nat), dg j b → dg (i + j) (cl a b) := by
  intro j
  induction j with
  | zero =>
    intro b hb
    have : b = 1 := by have h1 := hb.1; have h2 := hb.2; simp at h1 h2; omega
    subst this; rw [cl_one]; exact ha
  | succ j ih =>
    intro b hb
    have h1 := hb.1; have h2 := hb.2
    have h3 := ih (b / 2) ⟨by rw [Nat.pow_succ] at h1; omega, by rw [Nat.pow_succ] at h2; omega⟩
    rw [cl_step]
    have h4 : dg (i + (j + 1)) (2 * cl a (b / 2)) := by
      have h5 := h3.1; have h6 := h3.2
      refine ⟨?_, ?_⟩
      · rw [show i + (j + 1) = (i + j) + 1 from by omega, Nat.pow_succ]; omega
      · rw [show i + (j + 1) + 1 = (i + j + 1) + 1 from by omega, Nat.pow_succ]; omega
    apply xor_div_pow_dg _ h4
    have h7 : a < 2 ^ (i + (j + 1)) := Nat.lt_of_lt_of_le ha.2 (Nat.pow_le_pow_right (by omega) (by omega))
    unfold lo; split
    · exact h7
    · exact Nat.two_pow_pos _
theorem dg_of_pos {a : Nat} (h : a ≠ 0) : dg a.log2 a := ⟨Nat.log2_self_le h, Nat.lt_log2_self⟩
theorem dg_uniq {i j a : Nat} (h : dg i a) (h' : dg j a) : i = j := by
  have h1 : ¬ i < j := fun hl => by
    have := Nat.pow_le_pow_right (n := 2) (by omega) (show i + 1 ≤ j by omega)
    have := h.2; have := h'.1; omega
  have h2 : ¬ j < i := fun hl => by
    have := Nat.pow_le_pow_right (n := 2) (by omega) (show j + 1 ≤ i by omega)
    have := h'.2; have := h.1; omega
  omega

/-- equal modulo f -/
def Eqv (f x y : Nat) : Prop := ∃ q, x ^^^ y = cl q f
theorem Eqv.refl (f x : Nat) : Eqv f x x := ⟨0, by rw [zero_cl, Nat.xor_self]⟩
theorem Eqv.symm {f x y : Nat} (h : Eqv f x y) : Eqv f y x := by obtain ⟨q, h⟩ := h; exact ⟨q, by rw [Nat.xor_comm, h]⟩
theorem Eqv.trans {f x y z : Nat} (h : Eqv f x y) (h' : Eqv f y z) : Eqv f x z := by
  obtain ⟨q, h⟩ := h; obtain ⟨r, h'⟩ := h'
  refine ⟨q ^^^ r, ?_⟩
  rw [xor_cl, ← h, ← h', Nat.xor_assoc, xor_cancel]
theorem Eqv.xor {f x y x' y' : Nat} (h : Eqv f x y) (h' : Eqv f x' y') : Eqv f (x ^^^ x') (y ^^^ y') := by
  obtain ⟨q, h⟩ := h; obtain ⟨r, h'⟩ := h'
  exact ⟨q ^^^ r, by rw [xor_cl, ← h, ← h', xor_swap]⟩
theorem Eqv.cl {f x y : Nat} (h : Eqv f x y) (z : Nat) : Eqv f (cl x z) (cl y z) := by
  obtain ⟨q, h⟩ := h
  refine ⟨YtmenkahkdcjkiaaDoor.cl q z, ?_⟩
  rw [← xor_cl, h, cl_assoc, cl_comm f z, ← cl_assoc]
theorem Eqv.lc {f x y : Nat} (h : Eqv f x y) (z : Nat) : Eqv f (YtmenkahkdcjkiaaDoor.cl z x) (YtmenkahkdcjkiaaDoor.cl z y) := by rw [cl_comm z x, cl_comm z y]; exact h.cl z
theorem Eqv.uniq {m f x y : Nat} (hf : dg m f) (hx : x < 2 ^ m) (hy : y < 2 ^ m) (h : Eqv f x y) : x = y := by
  obtain ⟨q, h⟩ := h
  by_cases hq : q = 0
  · subst hq
    rw [zero_cl] at h
    have := xor_cancel x y
    rw [h, Nat.xor_zero] at this; exact this
  · have h1 := dg_cl (dg_of_pos hq) m f hf
    rw [← h] at h1
    have h2 := Nat.xor_lt_two_pow hx hy
    have h3 := h1.1
    have := Nat.pow_le_pow_right (n := 2) (by omega) (show m ≤ q.log2 + m by omega)
    omega
theorem Eqv.shift (f x k : Nat) : Eqv f (x ^^^ f <<< k) x := by
  refine ⟨1 <<< k, ?_⟩
  rw [Nat.xor_comm x, Nat.xor_assoc, Nat.xor_self, Nat.xor_zero]
  induction k with
  | zero => simp [one_cl]
  | succ k ih =>
    have : ∀ z : Nat, z <<< (k + 1) = 2 * z <<< k := fun z => by rw [Nat.shiftLeft_succ]
    rw [this, this, two_cl, ih]
theorem dg_shift {m f k : Nat} (h : dg m f) : dg (m + k) (f <<< k) := by
  rw [Nat.shiftLeft_eq]
  have h1 := h.1; have h2 := h.2
  refine ⟨?_, ?_⟩
  · rw [Nat.pow_add]; exact Nat.mul_le_mul_right _ h1
  · rw [show m + k + 1 = (m + 1) + k from by omega, Nat.pow_add]; exact Nat.mul_lt_mul_of_pos_right h2 (Nat.two_pow_pos k)

/-- there is a remainder -/
theorem exists_rem {m f : Nat} (hf : dg m f) : ∀ x, ∃ r, r < 2 ^ m ∧ Eqv f x r := by
  intro x
  induction x using Nat.strongRecOn with
  | _ x ih =>
    by_cases hx : x < 2 ^ m
    · exact ⟨x, hx, Eqv.refl f x⟩
    · have hp := Nat.two_pow_pos m
      have hd := dg_of_pos (show x ≠ 0 by omega)
      have hl : m ≤ x.log2 := by
        have h2 := hd.2
        by_cases h : m ≤ x.log2
        · exact h
        · have := Nat.pow_le_pow_right (n := 2) (by omega) (show x.log2 + 1 ≤ m by omega); omega
      have hs := dg_shift (k := x.log2 - m) hf
      rw [show m + (x.log2 - m) = x.log2 from by omega] at hs
      have h1 := xor_lt_of_dg hd hs
      have h2 := hd.1
      obtain ⟨r, hr, he⟩ := ih (x ^^^ f <<< (x.log2 - m)) (by omega)
      exact ⟨r, hr, (Eqv.shift f x _).symm.trans he⟩

/-- division with remainder -/
theorem exists_div {i a : Nat} (ha : dg i a) (x : Nat) : ∃ q r, r < 2 ^ i ∧ x = cl q a ^^^ r := by
  obtain ⟨r, hr, q, hq⟩ := exists_rem ha x
  refine ⟨q, r, hr, ?_⟩
  rw [← hq, Nat.xor_assoc, Nat.xor_self, Nat.xor_zero]

/-- f has no divisor of a degree from 1 to m - 1 -/
def Irr (m f : Nat) : Prop := ∀ a q, a < 2 ^ m → 1 < a → cl q a ≠ f
theorem exists_inv {m f : Nat} (hf : dg m f) (hm : 1 ≤ m) (hi : Irr m f) : ∀ a, a < 2 ^ m → a ≠ 0 → ∃ b, b < 2 ^ m ∧ Eqv f (cl b a) 1 := by
  have h2m : 2 ≤ 2 ^ m := by have := Nat.pow_le_pow_right (n := 2) (by omega) hm; omega
  intro a
  induction a using Nat.strongRecOn with
  | _ a ih =>
    intro ha h0
    by_cases h1 : a = 1
    · subst h1; exact ⟨1, by omega, by rw [cl_one]; exact Eqv.refl f 1⟩
    · have hd := dg_of_pos h0
      obtain ⟨q, r, hr, e⟩ := exists_div hd f
      have hra : r < a := Nat.lt_of_lt_of_le hr hd.1
      by_cases hr0 : r = 0
      · subst hr0
        rw [Nat.xor_zero] at e
        exact absurd e.symm (hi a q ha (by omega))
      · obtain ⟨v, hv, hv1⟩ := ih r hra (by omega) hr0
        obtain ⟨b, hb, hbe⟩ := exists_rem hf (cl v q)
        refine ⟨b, hb, (hbe.symm.cl a).trans ?_⟩
        -- v q a = v (f + r)
        have e2 : cl q a = f ^^^ r := by rw [e, Nat.xor_assoc, Nat.xor_self, Nat.xor_zero]
        rw [cl_assoc, e2, cl_xor]
        have e3 : Eqv f (cl v f) 0 := ⟨v, by rw [Nat.xor_zero]⟩
        have := e3.xor hv1
        rwa [Nat.zero_xor] at this
end Go.Proofs.YtmenkahkdcjkiaaDoor
