/- Plain mathematics: finite fields on the numbers below q; powers; every element but 0 to the power q - 1 is 1. -/
namespace Go.Proofs.YtmenkahkdcjkiaaDoor

structure Fld (q : Nat) (add mul : Nat → Nat → Nat) : Prop where
  two_le : 2 ≤ q
  add_lt : ∀ a b, a < q → b < q → add a b < q
  mul_lt : ∀ a b, a < q → b < q → mul a b < q
  add_comm : ∀ a b, a < q → b < q → add a b = add b a
  add_assoc : ∀ a b c, a < q → b < q → c < q → add (add a b) c = add a (add b c)
  add_zero : ∀ a, a < q → add a 0 = a
  neg : ∀ a, a < q → ∃ b, b < q ∧ add a b = 0
  mul_comm : ∀ a b, a < q → b < q → mul a b = mul b a
  mul_assoc : ∀ a b c, a < q → b < q → c < q → mul (mul a b) c = mul a (mul b c)
  mul_one : ∀ a, a < q → mul a 1 = a
  distrib : ∀ a b c, a < q → b < q → c < q → mul a (add b c) = add (mul a b) (mul a c)
  inv : ∀ a, a < q → a ≠ 0 → ∃ b, b < q ∧ mul a b = 1

/-- the product of k factors a -/
def pw (mul : Nat → Nat → Nat) (a : Nat) : Nat → Nat
  | 0 => 1
  | k + 1 => mul (pw mul a k) a

namespace Fld
variable {q : Nat} {add mul : Nat → Nat → Nat} (F : Fld q add mul)
include F

theorem one_lt : 1 < q := F.two_le
theorem pos : 0 < q := by have := F.two_le; omega
theorem zero_add {a : Nat} (h : a < q) : add 0 a = a := by rw [F.add_comm 0 a F.pos h, F.add_zero a h]
theorem one_mul {a : Nat} (h : a < q) : mul 1 a = a := by rw [F.mul_comm 1 a F.one_lt h, F.mul_one a h]
theorem add_left {a b c : Nat} (ha : a < q) (hb : b < q) (hc : c < q) (e : add a b = add a c) : b = c := by
  obtain ⟨n, hn, h⟩ := F.neg a ha
  have h1 : add n (add a b) = b := by rw [← F.add_assoc n a b hn ha hb, F.add_comm n a hn ha, h, F.zero_add hb]
  have h2 : add n (add a c) = c := by rw [← F.add_assoc n a c hn ha hc, F.add_comm n a hn ha, h, F.zero_add hc]
  rw [← h1, e, h2]
theorem mul_zero {a : Nat} (h : a < q) : mul a 0 = 0 := by
  have h0 := F.mul_lt a 0 h F.pos
  have e := F.distrib a 0 0 h F.pos F.pos
  rw [F.add_zero 0 F.pos] at e
  have e2 : add (mul a 0) 0 = add (mul a 0) (mul a 0) := by rw [F.add_zero _ h0]; exact e
  exact (F.add_left h0 F.pos h0 e2).symm
theorem zero_mul {a : Nat} (h : a < q) : mul 0 a = 0 := by rw [F.mul_comm 0 a F.pos h, F.mul_zero h]
theorem mul_left {a b c : Nat} (ha : a < q) (h0 : a ≠ 0) (hb : b < q) (hc : c < q) (e : mul a b = mul a c) : b = c := by
  obtain ⟨n, hn, h⟩ := F.inv a ha h0
  have h1 : mul n (mul a b) = b := by rw [← F.mul_assoc n a b hn ha hb, F.mul_comm n a hn ha, h, F.one_mul hb]
  have h2 : mul n (mul a c) = c := by rw [← F.mul_assoc n a c hn ha hc, F.mul_comm n a hn ha, h, F.one_mul hc]
  rw [← h1, e, h2]
theorem mul_ne {a b : Nat} (ha : a < q) (hb : b < q) (h0 : a ≠ 0) (h1 : b ≠ 0) : mul a b ≠ 0 := fun e => by
  rw [← F.mul_zero ha] at e
  exact h1 (F.mul_left ha h0 hb F.pos e)

theorem pw_lt {a : Nat} (h : a < q) : ∀ k, pw mul a k < q
  | 0 => F.one_lt
  | k + 1 => F.mul_lt _ _ (pw_lt h k) h
theorem pw_ne {a : Nat} (h : a < q) (h0 : a ≠ 0) : ∀ k, pw mul a k ≠ 0
  | 0 => by simp [pw]
  | k + 1 => F.mul_ne (F.pw_lt h k) h (pw_ne h h0 k) h0
theorem pw_one {a : Nat} (h : a < q) : pw mul a 1 = a := by simp [pw, F.one_mul h]
theorem pw_add {a : Nat} (h : a < q) (i j : Nat) : pw mul a (i + j) = mul (pw mul a i) (pw mul a j) := by
  induction j with
  | zero => simp [pw, F.mul_one _ (F.pw_lt h i)]
  | succ j ih =>
    rw [← Nat.add_assoc, pw, ih, pw, F.mul_assoc _ _ _ (F.pw_lt h i) (F.pw_lt h j) h]
theorem one_pw (k : Nat) : pw mul 1 k = 1 := by
  induction k with
  | zero => rfl
  | succ k ih => rw [pw, ih, F.one_mul F.one_lt]
theorem zero_pw {k : Nat} (h : k ≠ 0) : pw mul 0 k = 0 := by
  cases k with
  | zero => omega
  | succ k => rw [pw, F.mul_zero (F.pw_lt F.pos k)]
theorem pw_mul {a : Nat} (h : a < q) (i j : Nat) : pw mul a (i * j) = pw mul (pw mul a i) j := by
  induction j with
  | zero => rfl
  | succ j ih => rw [Nat.mul_succ, F.pw_add h, ih, pw]
theorem mul_pw {a b : Nat} (ha : a < q) (hb : b < q) (k : Nat) : pw mul (mul a b) k = mul (pw mul a k) (pw mul b k) := by
  induction k with
  | zero => simp [pw, F.mul_one 1 F.one_lt]
  | succ k ih =>
    have h1 := F.pw_lt ha k
    have h2 := F.pw_lt hb k
    rw [pw, ih, pw, pw, F.mul_assoc _ _ _ h1 h2 (F.mul_lt a b ha hb), ← F.mul_assoc _ a b h2 ha hb, F.mul_comm _ a h2 ha, F.mul_assoc a _ b ha h2 hb,
      ← F.mul_assoc _ a _ h1 ha (F.mul_lt _ _ h2 hb)]
/-- one step of squaring and multiplying -/
theorem pw_half {a : Nat} (h : a < q) (k : Nat) : pw mul a k = mul (if k % 2 = 1 then a else 1) (pw mul (mul a a) (k / 2)) := by
  have e : mul a a = pw mul a 2 := by simp [pw, F.one_mul h]
  rw [e, ← F.pw_mul h]
  by_cases hk : k % 2 = 1
  · rw [if_pos hk]
    have := F.pw_add h 1 (2 * (k / 2))
    rw [F.pw_one h, show 1 + 2 * (k / 2) = k from by omega] at this
    exact this
  · rw [if_neg hk, show 2 * (k / 2) = k from by omega, F.one_mul (F.pw_lt h k)]

/-- the product of a list -/
def prd (mul : Nat → Nat → Nat) : List Nat → Nat
  | [] => 1
  | x :: l => mul x (prd mul l)
theorem prd_lt : ∀ l : List Nat, (∀ x, x ∈ l → x < q) → prd mul l < q
  | [], _ => F.one_lt
  | x :: l, h => F.mul_lt _ _ (h x (by simp)) (prd_lt l fun y hy => h y (by simp [hy]))
theorem prd_ne : ∀ l : List Nat, (∀ x, x ∈ l → x < q ∧ x ≠ 0) → prd mul l ≠ 0
  | [], _ => by simp [prd]
  | x :: l, h => F.mul_ne (h x (by simp)).1 (F.prd_lt l fun y hy => (h y (by simp [hy])).1) (h x (by simp)).2 (prd_ne l fun y hy => h y (by simp [hy]))
theorem prd_perm {l m : List Nat} (h : l.Perm m) : (∀ x, x ∈ l → x < q) → prd mul l = prd mul m := by
  induction h with
  | nil => intro _; rfl
  | cons x _ ih => intro hx; rw [prd, prd, ih fun y hy => hx y (by simp [hy])]
  | swap x y l =>
    intro hx
    have h1 := hx x (by simp); have h2 := hx y (by simp)
    have h3 := F.prd_lt l fun z hz => hx z (by simp [hz])
    rw [prd, prd, prd, prd, ← F.mul_assoc _ _ _ h2 h1 h3, F.mul_comm y x h2 h1, F.mul_assoc _ _ _ h1 h2 h3]
  | trans h1 _ ih1 ih2 => intro hx; rw [ih1 hx, ih2 fun y hy => hx y (h1.mem_iff.2 hy)]
theorem prd_map {a : Nat} (ha : a < q) : ∀ l : List Nat, (∀ x, x ∈ l → x < q) → prd mul (l.map (mul a)) = mul (pw mul a l.length) (prd mul l)
  | [], _ => by simp [prd, pw, F.mul_one 1 F.one_lt]
  | x :: l, h => by
    have hx := h x (by simp)
    have h1 := F.prd_lt l fun y hy => h y (by simp [hy])
    have h2 := F.pw_lt ha l.length
    rw [List.map_cons, prd, prd_map ha l fun y hy => h y (by simp [hy]), prd, List.length_cons, pw]
    rw [F.mul_assoc a x _ ha hx (F.mul_lt _ _ h2 h1), F.mul_assoc _ a _ h2 ha (F.mul_lt _ _ hx h1), ← F.mul_assoc x _ _ hx h2 h1, F.mul_comm x _ hx h2, F.mul_assoc _ x _ h2 hx h1,
      ← F.mul_assoc a _ _ ha h2 (F.mul_lt _ _ hx h1), ← F.mul_assoc _ a _ h2 ha (F.mul_lt _ _ hx h1), F.mul_comm a _ ha h2]
end Fld

/-- a list without repetition whose elements lie in a list that is not longer is a permutation of it -/
theorem perm_of_sub : ∀ {l m : List Nat}, l.Nodup → (∀ x, x ∈ l → x ∈ m) → m.length ≤ l.length → l.Perm m
  | [], m, _, _, h => by
    have : m = [] := List.length_eq_zero_iff.1 (by simpa using h)
    subst this; exact List.Perm.nil
  | x :: l, m, hn, hs, h => by
    rw [List.nodup_cons] at hn
    have hx : x ∈ m := hs x (by simp)
    have h1 := List.perm_cons_erase hx
    refine (List.Perm.cons x (perm_of_sub hn.2 (fun y hy => ?_) ?_)).trans h1.symm
    · have hne : y ≠ x := fun e => hn.1 (e ▸ hy)
      exact (List.mem_erase_of_ne hne).2 (hs y (by simp [hy]))
    · rw [List.length_erase_of_mem hx]; simp at h; omega
theorem nodup_map {f : Nat → Nat} : ∀ {l : List Nat}, l.Nodup → (∀ x y, x ∈ l → y ∈ l → f x = f y → x = y) → (l.map f).Nodup
  | [], _, _ => by simp
  | x :: l, hn, hf => by
    rw [List.nodup_cons] at hn
    rw [List.map_cons, List.nodup_cons]
    refine ⟨fun hm => ?_, nodup_map hn.2 fun y z hy hz => hf y z (by simp [hy]) (by simp [hz])⟩
    obtain ⟨y, hy, e⟩ := List.mem_map.1 hm
    exact hn.1 (hf y x (by simp [hy]) (by simp) e ▸ hy)
/-- the numbers from 1 to q - 1 -/
def unitsL (q : Nat) : List Nat := (List.range q).tail
theorem mem_unitsL {q x : Nat} : x ∈ unitsL q ↔ x < q ∧ x ≠ 0 := by
  unfold unitsL
  cases q with
  | zero => simp
  | succ q => rw [List.range_succ_eq_map]; simp; constructor
              · rintro ⟨y, hy, rfl⟩; omega
              · intro ⟨h1, h2⟩; exact ⟨x - 1, by omega, by omega⟩
theorem length_unitsL (q : Nat) : (unitsL q).length = q - 1 := by simp [unitsL]
theorem nodup_unitsL (q : Nat) : (unitsL q).Nodup := by
  unfold unitsL
  exact List.Nodup.sublist (List.tail_sublist _) List.nodup_range

namespace Fld
variable {q : Nat} {add mul : Nat → Nat → Nat} (F : Fld q add mul)
include F
theorem pw_order {a : Nat} (ha : a < q) (h0 : a ≠ 0) : pw mul a (q - 1) = 1 := by
  have hu : ∀ x, x ∈ unitsL q → x < q := fun x hx => (mem_unitsL.1 hx).1
  have hp : ((unitsL q).map (mul a)).Perm (unitsL q) := by
    apply perm_of_sub
    · exact nodup_map (nodup_unitsL q) fun x y hx hy e => F.mul_left ha h0 (hu x hx) (hu y hy) e
    · intro y hy
      obtain ⟨x, hx, rfl⟩ := List.mem_map.1 hy
      exact mem_unitsL.2 ⟨F.mul_lt _ _ ha (hu x hx), F.mul_ne ha (hu x hx) h0 (mem_unitsL.1 hx).2⟩
    · simp
  have h1 := F.prd_perm hp fun x hx => by
    obtain ⟨y, hy, rfl⟩ := List.mem_map.1 hx
    exact F.mul_lt _ _ ha (hu y hy)
  rw [F.prd_map ha _ hu, length_unitsL] at h1
  have h2 := F.prd_lt _ hu
  have h3 := F.prd_ne _ fun x hx => mem_unitsL.1 hx
  have h4 := F.pw_lt ha (q - 1)
  rw [F.mul_comm _ _ h4 h2] at h1
  refine F.mul_left h2 h3 h4 F.one_lt ?_
  rw [h1, F.mul_one _ h2]
theorem pw_q {a : Nat} (ha : a < q) : pw mul a q = a := by
  have hq : q = (q - 1) + 1 := by have := F.two_le; omega
  by_cases h0 : a = 0
  · subst h0; exact F.zero_pw (by have := F.two_le; omega)
  · rw [hq, pw, F.pw_order ha h0, F.one_mul ha]
theorem mul_inv {a : Nat} (ha : a < q) (h0 : a ≠ 0) : mul a (pw mul a (q - 2)) = 1 := by
  have hq : q - 1 = (q - 2) + 1 := by have := F.two_le; omega
  have := F.pw_order ha h0
  rw [hq, pw, F.mul_comm _ _ (F.pw_lt ha _) ha] at this
  exact this
end Fld
end Go.Proofs.YtmenkahkdcjkiaaDoor
