/- Plain mathematics: a polynomial has no more roots than its degree; the elements but 0 of a finite field are the powers of one of them. -/
import Derived.Test.YtmenkahkdcjkiaaDoorFld
namespace Go.Proofs.YtmenkahkdcjkiaaDoor

namespace Fld
variable {q : Nat} {add mul : Nat → Nat → Nat} (F : Fld q add mul)
include F

theorem add_swap {a b c d : Nat} (ha : a < q) (hb : b < q) (hc : c < q) (hd : d < q) : add (add a b) (add c d) = add (add a c) (add b d) := by
  rw [F.add_assoc a b _ ha hb (F.add_lt _ _ hc hd), ← F.add_assoc b c d hb hc hd, F.add_comm b c hb hc, F.add_assoc c b d hc hb hd, ← F.add_assoc a c _ ha hc (F.add_lt _ _ hb hd)]
theorem distrib_right {a b c : Nat} (ha : a < q) (hb : b < q) (hc : c < q) : mul (add a b) c = add (mul a c) (mul b c) := by
  rw [F.mul_comm _ c (F.add_lt _ _ ha hb) hc, F.distrib c a b hc ha hb, F.mul_comm c a hc ha, F.mul_comm c b hc hb]
omit F in
/-- the value of a polynomial, the constant first -/
def ev (add mul : Nat → Nat → Nat) (x : Nat) : List Nat → Nat
  | [] => 0
  | c :: l => add c (mul x (ev add mul x l))
omit F in
/-- the quotient by x - r -/
def qt (add mul : Nat → Nat → Nat) (r : Nat) : List Nat → List Nat
  | [] => []
  | [_] => []
  | _ :: c :: l => ev add mul r (c :: l) :: qt add mul r (c :: l)
theorem ev_lt {x : Nat} (hx : x < q) : ∀ l : List Nat, (∀ c, c ∈ l → c < q) → ev add mul x l < q
  | [], _ => F.pos
  | c :: l, h => F.add_lt _ _ (h c (by simp)) (F.mul_lt _ _ hx (ev_lt hx l fun d hd => h d (by simp [hd])))
theorem qt_lt {r : Nat} (hr : r < q) : ∀ l : List Nat, (∀ c, c ∈ l → c < q) → ∀ c, c ∈ qt add mul r l → c < q
  | [], _ => by simp [qt]
  | [_], _ => by simp [qt]
  | _ :: c :: l, h => by
    intro d hd
    rw [qt, List.mem_cons] at hd
    rcases hd with rfl | hd
    · exact F.ev_lt hr _ fun e he => h e (by simp at he ⊢; exact .inr he)
    · exact qt_lt hr (c :: l) (fun e he => h e (by simp at he ⊢; exact .inr he)) d hd
omit F in
theorem length_qt {r : Nat} : ∀ l : List Nat, (qt add mul r l).length = l.length - 1
  | [] => rfl
  | [_] => rfl
  | _ :: c :: l => by rw [qt, List.length_cons, length_qt (c :: l)]; simp
theorem qt_last {r : Nat} (hr : r < q) : ∀ l : List Nat, (∀ c, c ∈ l → c < q) → 2 ≤ l.length → (qt add mul r l).getLast? = l.getLast?
  | [], _, h => by simp at h
  | [_], _, h => by simp at h
  | [_, c], hc, _ => by
    have := hc c (by simp)
    simp [qt, ev, F.mul_zero hr, F.add_zero c this]
  | _ :: c :: d :: l, hc, _ => by
    have ih := qt_last hr (c :: d :: l) (fun e he => hc e (by simp at he ⊢; exact .inr he)) (by simp)
    have e1 : qt add mul r (c :: d :: l) = ev add mul r (d :: l) :: qt add mul r (d :: l) := rfl
    rw [qt, e1, List.getLast?_cons_cons, ← e1, ih, List.getLast?_cons_cons, List.getLast?_cons_cons, List.getLast?_cons_cons]
/-- f(x) + r h(x) = f(r) + x h(x) -/
theorem qt_ev {r x : Nat} (hr : r < q) (hx : x < q) : ∀ l : List Nat, (∀ c, c ∈ l → c < q) →
    add (ev add mul x l) (mul r (ev add mul x (qt add mul r l))) = add (ev add mul r l) (mul x (ev add mul x (qt add mul r l)))
  | [], _ => by simp [ev, qt, F.mul_zero hr, F.mul_zero hx]
  | [c], h => by
    have hc := h c (by simp)
    simp [ev, qt, F.mul_zero hr, F.mul_zero hx]
  | b :: c :: l, h => by
    have hb := h b (by simp)
    have hl : ∀ e, e ∈ c :: l → e < q := fun e he => h e (by simp at he ⊢; exact .inr he)
    have ih := qt_ev hr hx (c :: l) hl
    have h1 := F.ev_lt hx _ hl
    have h2 := F.ev_lt hr _ hl
    have h3 := F.ev_lt hx _ (F.qt_lt hr _ hl)
    rw [qt, ev, ev, ev]
    rw [show ev add mul r (b :: c :: l) = add b (mul r (ev add mul r (c :: l))) from rfl]
    obtain ⟨A, hA⟩ : ∃ A, A = ev add mul x (c :: l) := ⟨_, rfl⟩
    obtain ⟨B, hB⟩ : ∃ B, B = ev add mul r (c :: l) := ⟨_, rfl⟩
    obtain ⟨H, hH⟩ : ∃ H, H = ev add mul x (qt add mul r (c :: l)) := ⟨_, rfl⟩
    rw [show add c (mul x (ev add mul x l)) = A from hA.symm, ← hB, ← hH]
    rw [← hA] at ih h1; rw [← hB] at ih h2; rw [← hH] at ih h3
    have m1 := F.mul_lt _ _ hx h1; have m2 := F.mul_lt _ _ hr h2; have m3 := F.mul_lt _ _ hx h3; have m4 := F.mul_lt _ _ hx h2
    have m5 := F.mul_lt _ _ hr m3; have m6 := F.mul_lt _ _ hr h3; have m7 := F.mul_lt _ _ hx m3; have m8 := F.mul_lt _ _ hx m6
    -- x * ih
    have ih2 : add (mul x A) (mul x (mul r H)) = add (mul x B) (mul x (mul x H)) := by
      rw [← F.distrib x _ _ hx h1 m6, ih, F.distrib x _ _ hx h2 m3]
    have e1 : mul r (mul x H) = mul x (mul r H) := by rw [← F.mul_assoc r x H hr hx h3, F.mul_comm r x hr hx, F.mul_assoc x r H hx hr h3]
    rw [F.distrib r _ _ hr h2 m3, F.distrib x _ _ hx h2 m3, e1]
    rw [F.add_assoc b _ _ hb m1 (F.add_lt _ _ m2 m8), F.add_assoc b _ _ hb m2 (F.add_lt _ _ m4 m7)]
    rw [← F.add_assoc _ _ _ m1 m2 m8, F.add_comm _ _ m1 m2, F.add_assoc _ _ _ m2 m1 m8, ih2]

/-- a polynomial whose leading coefficient is not 0 has no more roots than its degree -/
theorem roots_le : ∀ (n : Nat) (l : List Nat), l.length = n → (∀ c, c ∈ l → c < q) → (∃ c, l.getLast? = some c ∧ c ≠ 0) →
    ∀ R : List Nat, R.Nodup → (∀ x, x ∈ R → x < q ∧ ev add mul x l = 0) → R.length + 1 ≤ n
  | 0, l, hl, _, ⟨c, hc, _⟩, _, _, _ => by
    rw [List.length_eq_zero_iff.1 hl] at hc; simp at hc
  | 1, l, hl, hlt, ⟨c, hc, h0⟩, R, _, hR => by
    obtain ⟨d, rfl⟩ := List.length_eq_one_iff.1 hl
    simp at hc; subst hc
    cases R with
    | nil => simp
    | cons x R =>
      have := (hR x (by simp)).2
      have hx := (hR x (by simp)).1
      rw [ev, ev, F.mul_zero hx, F.add_zero _ (hlt d (by simp))] at this
      exact absurd this h0
  | n + 2, l, hl, hlt, ⟨c, hc, h0⟩, R, hn, hR => by
    cases R with
    | nil => simp
    | cons r R =>
      rw [List.nodup_cons] at hn
      obtain ⟨hr, hr0⟩ := hR r (by simp)
      have ih := roots_le (n + 1) (qt add mul r l) (by rw [length_qt, hl]; rfl) (F.qt_lt hr l hlt) ⟨c, by rw [F.qt_last hr l hlt (by omega), hc], h0⟩ R hn.2 (fun x hx => by
        obtain ⟨hxq, hx0⟩ := hR x (by simp [hx])
        refine ⟨hxq, ?_⟩
        have e := F.qt_ev hr hxq l hlt
        have h3 := F.ev_lt hxq _ (F.qt_lt hr _ hlt)
        rw [hr0, hx0, F.zero_add (F.mul_lt _ _ hr h3), F.zero_add (F.mul_lt _ _ hxq h3)] at e
        by_cases hz : ev add mul x (qt add mul r l) = 0
        · exact hz
        · rw [F.mul_comm r _ hr h3, F.mul_comm x _ hxq h3] at e
          have := F.mul_left h3 hz hr hxq e
          subst this
          exact absurd hx hn.1)
      simp; omega

/-- at most d elements are roots of 1 for d -/
theorem ev_mono {x c : Nat} (hx : x < q) (hc : c < q) (d : Nat) : ev add mul x (List.replicate d 0 ++ [c]) = mul (pw mul x d) c := by
  induction d with
  | zero => simp [ev, pw, F.mul_zero hx, F.add_zero c hc, F.one_mul hc]
  | succ d ih =>
    rw [List.replicate_succ, List.cons_append, ev, ih, F.zero_add (F.mul_lt _ _ hx (F.mul_lt _ _ (F.pw_lt hx d) hc)), pw]
    rw [← F.mul_assoc _ _ _ hx (F.pw_lt hx d) hc, F.mul_comm x _ hx (F.pw_lt hx d)]
theorem unity_le {d : Nat} (hd : 1 ≤ d) (R : List Nat) (hn : R.Nodup) (hR : ∀ x, x ∈ R → x < q ∧ pw mul x d = 1) : R.length ≤ d := by
  obtain ⟨m, hm, hm1⟩ := F.neg 1 F.one_lt
  obtain ⟨e, rfl⟩ : ∃ e, d = e + 1 := ⟨d - 1, by omega⟩
  have := F.roots_le (e + 2) (m :: (List.replicate e 0 ++ [1])) (by simp) (fun c hc => by
    simp only [List.mem_cons, List.mem_append, List.mem_replicate, List.not_mem_nil, or_false] at hc
    rcases hc with rfl | ⟨_, rfl⟩ | rfl
    · exact hm
    · exact F.pos
    · exact F.one_lt) ⟨1, by simp [List.getLast?_cons], by simp⟩ R hn (fun x hx => by
    obtain ⟨h1, h2⟩ := hR x hx
    refine ⟨h1, ?_⟩
    rw [ev, F.ev_mono h1 F.one_lt, F.mul_one _ (F.pw_lt h1 e), F.mul_comm x _ h1 (F.pw_lt h1 e), show mul (pw mul x e) x = pw mul x (e + 1) from rfl, h2, F.add_comm m 1 hm F.one_lt, hm1])
  omega

theorem pw_mod {a n : Nat} (ha : a < q) (h : pw mul a n = 1) (k : Nat) : pw mul a k = pw mul a (k % n) := by
  have := F.pw_add ha (n * (k / n)) (k % n)
  rw [Nat.div_add_mod, F.pw_mul ha, h, F.one_pw, F.one_mul (F.pw_lt ha _)] at this
  exact this
theorem pw_gcd {a : Nat} (ha : a < q) (x y : Nat) : pw mul a x = 1 → pw mul a y = 1 → pw mul a (Nat.gcd x y) = 1 := by
  induction x, y using Nat.gcd.induction with
  | H0 n => intro _ h; rwa [Nat.gcd_zero_left]
  | H1 m n hm ih =>
    intro h1 h2
    rw [Nat.gcd_rec]
    exact ih (by rw [← F.pw_mod ha h1]; exact h2) h1
end Fld

/-- p has no divisor but 1 and p -/
def Pr (p : Nat) : Prop := 2 ≤ p ∧ ∀ d, d ∣ p → d = 1 ∨ d = p
theorem exists_pr : ∀ n : Nat, 2 ≤ n → ∃ p, Pr p ∧ p ∣ n := by
  intro n
  induction n using Nat.strongRecOn with
  | _ n ih =>
    intro h2
    by_cases h : ∀ d, d ∣ n → d = 1 ∨ d = n
    · exact ⟨n, ⟨h2, h⟩, Nat.dvd_refl n⟩
    · have : ∃ d, d ∣ n ∧ d ≠ 1 ∧ d ≠ n := by
        apply Classical.byContradiction
        intro hh
        exact h fun d hd => Classical.byContradiction fun hn => hh ⟨d, hd, fun e => hn (.inl e), fun e => hn (.inr e)⟩
      obtain ⟨d, hd, h1, hne⟩ := this
      have hle := Nat.le_of_dvd (by omega) hd
      have h0 : d ≠ 0 := fun e => by subst e; have := Nat.eq_zero_of_zero_dvd hd; omega
      obtain ⟨p, hp, hpd⟩ := ih d (by omega) (by omega)
      exact ⟨p, hp, Nat.dvd_trans hpd hd⟩
theorem Pr.cop {p a : Nat} (hp : Pr p) (h : ¬ p ∣ a) : Nat.Coprime p a := by
  rcases hp.2 _ (Nat.gcd_dvd_left p a) with e | e
  · exact e
  · exact absurd (e ▸ Nat.gcd_dvd_right p a) h
theorem Pr.mul {p a b : Nat} (hp : Pr p) (h : p ∣ a * b) : p ∣ a ∨ p ∣ b := by
  by_cases ha : p ∣ a
  · exact .inl ha
  · exact .inr ((hp.cop ha).dvd_of_dvd_mul_left h)
theorem Pr.pow {p a : Nat} (hp : Pr p) : ∀ k, p ∣ a ^ k → p ∣ a
  | 0, h => by rw [Nat.pow_zero, Nat.dvd_one] at h; have := hp.1; omega
  | k + 1, h => by
    rw [Nat.pow_succ] at h
    rcases hp.mul h with h | h
    · exact hp.pow k h
    · exact h
theorem Pr.eq {p r : Nat} (hp : Pr p) (hr : Pr r) (h : r ∣ p) : r = p := by
  rcases hp.2 r h with e | e
  · have := hr.1; omega
  · exact e
/-- the full power of p in d -/
theorem exists_split {p : Nat} (hp : 2 ≤ p) : ∀ d : Nat, 1 ≤ d → ∃ k e, d = p ^ k * e ∧ ¬ p ∣ e := by
  intro d
  induction d using Nat.strongRecOn with
  | _ d ih =>
    intro h1
    by_cases h : p ∣ d
    · obtain ⟨c, rfl⟩ := h
      have hc : c ≠ 0 := fun e => by subst e; simp at h1
      have : c < p * c := by
        have := Nat.mul_le_mul_right c hp
        omega
      obtain ⟨k, e, he, hn⟩ := ih c this (by omega)
      exact ⟨k + 1, e, by rw [he, Nat.pow_succ, Nat.mul_comm (p ^ k) p, Nat.mul_assoc], hn⟩
    · exact ⟨0, d, by simp, h⟩
/-- a proper divisor of a power of p divides the power below -/
theorem Pr.below {p g k : Nat} (hp : Pr p) (h : g ∣ p ^ (k + 1)) (hne : g ≠ p ^ (k + 1)) : g ∣ p ^ k := by
  obtain ⟨c, hc⟩ := h
  have hpos : 0 < p ^ (k + 1) := Nat.pow_pos (by have := hp.1; omega)
  have hc2 : 2 ≤ c := by
    rcases c with _ | _ | c
    · rw [Nat.mul_zero] at hc; omega
    · exact absurd (by rw [hc]; simp) hne
    · omega
  obtain ⟨r, hr, hrc⟩ := exists_pr c hc2
  have h1 : r ∣ p ^ (k + 1) := hc ▸ Nat.dvd_trans hrc (Nat.dvd_mul_left c g)
  have h2 := hp.eq hr (hr.pow _ h1)
  subst h2
  obtain ⟨e, rfl⟩ := hrc
  refine ⟨e, ?_⟩
  rw [Nat.pow_succ, ← Nat.mul_assoc, Nat.mul_comm g, Nat.mul_assoc, Nat.mul_comm _ r] at hc
  exact Nat.eq_of_mul_eq_mul_left (by have := hp.1; omega) hc

/-- the powers of a to the multiples of n, and to no others, are 1 -/
def Ord (mul : Nat → Nat → Nat) (a n : Nat) : Prop := ∀ e, pw mul a e = 1 ↔ n ∣ e

namespace Fld
variable {q : Nat} {add mul : Nat → Nat → Nat} (F : Fld q add mul)
include F
theorem exists_not {e : Nat} (he : 1 ≤ e) (hlt : e < q - 1) : ∃ a, a < q ∧ a ≠ 0 ∧ pw mul a e ≠ 1 := by
  apply Classical.byContradiction
  intro h
  have := F.unity_le he (unitsL q) (nodup_unitsL q) fun x hx => by
    obtain ⟨h1, h2⟩ := mem_unitsL.1 hx
    exact ⟨h1, Classical.byContradiction fun hn => h ⟨x, h1, h2, hn⟩⟩
  rw [length_unitsL] at this; omega
theorem ord_prime_power {p k : Nat} (hp : Pr p) (h : p ^ k ∣ q - 1) : ∃ b, b < q ∧ b ≠ 0 ∧ Ord mul b (p ^ k) := by
  have hq := F.two_le
  cases k with
  | zero => exact ⟨1, F.one_lt, by simp, fun e => by rw [F.one_pw]; simp⟩
  | succ k =>
    obtain ⟨c, hc⟩ := h
    have hpk : 0 < p ^ k := Nat.pow_pos (by have := hp.1; omega)
    have hc0 : c ≠ 0 := fun e => by subst e; simp at hc; omega
    have e1 : q - 1 = p * (p ^ k * c) := by rw [hc, Nat.pow_succ, Nat.mul_comm (p ^ k) p, Nat.mul_assoc]
    have hpos : 0 < p ^ k * c := Nat.mul_pos hpk (by omega)
    obtain ⟨a, ha, ha0, hna⟩ := F.exists_not (e := p ^ k * c) hpos (by
      rw [e1]
      have := Nat.mul_le_mul_right (p ^ k * c) hp.1
      omega)
    have hb := F.pw_lt ha c
    refine ⟨pw mul a c, hb, F.pw_ne ha ha0 c, fun e => ?_⟩
    have h1 : pw mul (pw mul a c) (p ^ (k + 1)) = 1 := by rw [← F.pw_mul ha, Nat.mul_comm, ← hc, F.pw_order ha ha0]
    constructor
    · intro he
      have hg := F.pw_gcd hb e (p ^ (k + 1)) he h1
      by_cases hge : Nat.gcd e (p ^ (k + 1)) = p ^ (k + 1)
      · exact hge ▸ Nat.gcd_dvd_left _ _
      · obtain ⟨d, hd⟩ := hp.below (Nat.gcd_dvd_right e _) hge
        exfalso
        apply hna
        rw [Nat.mul_comm, F.pw_mul ha, hd, F.pw_mul hb, hg, F.one_pw]
    · rintro ⟨d, rfl⟩
      rw [F.pw_mul hb, h1, F.one_pw]
theorem ord_mul {b c m n : Nat} (hb : b < q) (hc : c < q) (h1 : Ord mul b m) (h2 : Ord mul c n) (hco : Nat.Coprime m n) : Ord mul (mul b c) (m * n) := by
  intro e
  rw [F.mul_pw hb hc]
  constructor
  · intro he
    have hbe := F.pw_lt hb e; have hce := F.pw_lt hc e
    have k1 : pw mul c (e * m) = 1 := by
      have : pw mul (mul (pw mul b e) (pw mul c e)) m = 1 := by rw [he, F.one_pw]
      rw [F.mul_pw hbe hce, ← F.pw_mul hb, ← F.pw_mul hc, (h1 (e * m)).2 (Nat.dvd_mul_left m e), F.one_mul (F.pw_lt hc _)] at this
      exact this
    have k2 : pw mul b (e * n) = 1 := by
      have : pw mul (mul (pw mul b e) (pw mul c e)) n = 1 := by rw [he, F.one_pw]
      rw [F.mul_pw hbe hce, ← F.pw_mul hb, ← F.pw_mul hc, (h2 (e * n)).2 (Nat.dvd_mul_left n e), F.mul_one _ (F.pw_lt hb _)] at this
      exact this
    exact hco.mul_dvd_of_dvd_of_dvd (hco.dvd_of_dvd_mul_right ((h1 _).1 k2)) (hco.symm.dvd_of_dvd_mul_right ((h2 _).1 k1))
  · intro hd
    rw [(h1 e).2 (Nat.dvd_trans (Nat.dvd_mul_right m n) hd), (h2 e).2 (Nat.dvd_trans (Nat.dvd_mul_left n m) hd), F.one_mul F.one_lt]
theorem exists_ord : ∀ d : Nat, 1 ≤ d → d ∣ q - 1 → ∃ b, b < q ∧ b ≠ 0 ∧ Ord mul b d := by
  intro d
  induction d using Nat.strongRecOn with
  | _ d ih =>
    intro h1 hd
    by_cases h : d = 1
    · subst h; exact ⟨1, F.one_lt, by simp, fun e => by rw [F.one_pw]; simp⟩
    · obtain ⟨p, hp, hpd⟩ := exists_pr d (by omega)
      obtain ⟨k, e, he, hn⟩ := exists_split hp.1 d h1
      have hk : k ≠ 0 := fun hk => by subst hk; rw [he, Nat.pow_zero, Nat.one_mul] at hpd; exact hn hpd
      have he0 : e ≠ 0 := fun h0 => by subst h0; simp at he; omega
      have hlt : e < d := by
        obtain ⟨j, rfl⟩ : ∃ j, k = j + 1 := ⟨k - 1, by omega⟩
        have h2 : 0 < p ^ j := Nat.pow_pos (by have := hp.1; omega)
        have h3 : 2 ≤ p ^ (j + 1) := by rw [Nat.pow_succ]; exact Nat.le_trans hp.1 (Nat.le_mul_of_pos_left p h2)
        have := Nat.mul_le_mul_right e h3
        omega
      obtain ⟨b, hb, hb0, hob⟩ := F.ord_prime_power (k := k) hp (Nat.dvd_trans (he ▸ Nat.dvd_mul_right _ _) hd)
      obtain ⟨c, hc, hc0, hoc⟩ := ih e hlt (by omega) (Nat.dvd_trans (he ▸ Nat.dvd_mul_left _ _) hd)
      refine ⟨mul b c, F.mul_lt _ _ hb hc, F.mul_ne hb hc hb0 hc0, ?_⟩
      rw [he]
      exact F.ord_mul hb hc hob hoc (Nat.Coprime.pow_left k (hp.cop hn))
/-- the powers to the quotients by the prime divisors tell whether an element makes all -/
theorem ord_of_max {g : Nat} (hg : g < q) (h0 : g ≠ 0) (h : ∀ p, Pr p → p ∣ q - 1 → pw mul g ((q - 1) / p) ≠ 1) : Ord mul g (q - 1) := by
  have hq := F.two_le
  have h1 := F.pw_order hg h0
  intro e
  constructor
  · intro he
    have hgc := F.pw_gcd hg e (q - 1) he h1
    by_cases hd : Nat.gcd e (q - 1) = q - 1
    · exact hd ▸ Nat.gcd_dvd_left _ _
    · exfalso
      obtain ⟨c, hc⟩ := Nat.gcd_dvd_right e (q - 1)
      have hc2 : 2 ≤ c := by
        rcases c with _ | _ | c
        · simp at hc; omega
        · simp at hc; exact absurd hc.symm hd
        · omega
      obtain ⟨p, hp, ⟨f, rfl⟩⟩ := exists_pr c hc2
      have e2 : q - 1 = p * (Nat.gcd e (q - 1) * f) := by
        rw [← Nat.mul_assoc, Nat.mul_comm p, Nat.mul_assoc]; exact hc
      apply h p hp ⟨_, e2⟩
      have e3 : (q - 1) / p = Nat.gcd e (q - 1) * f := by
        have := Nat.mul_div_cancel_left (Nat.gcd e (q - 1) * f) (show 0 < p by have := hp.1; omega)
        rw [← e2] at this; exact this
      rw [e3, F.pw_mul hg, hgc, F.one_pw]
  · rintro ⟨d, rfl⟩
    rw [F.pw_mul hg, h1, F.one_pw]
end Fld
end Go.Proofs.YtmenkahkdcjkiaaDoor
