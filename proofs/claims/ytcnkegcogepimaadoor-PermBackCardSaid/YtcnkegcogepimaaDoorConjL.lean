/- Plain mathematics: the greedy choice of cycles gives a conjugating permutation. -/
import Derived.Test.YtcnkegcogepimaaDoorCycM
import Derived.Test.YtcnkegcogepimaaDoorAlg
namespace Go.Proofs.YtcnkegcogepimaaDoor
open Go.RowKit

/-- the points of the cycles of q with the numbers js -/
def usd (q : List Int) (js : List Nat) : List Int := js.flatMap fun j => cyL q (st q j)
/-- the first cycle of q of length m whose first point is not in us -/
def pk (q : List Int) (m : Nat) (us : List Int) : Option Nat := (List.range (cyc q).length).find? fun j => ((cyc q).getD j []).length == m && !(us.contains ((st q j : Nat) : Int))
/-- the choices for the first k cycles of p -/
def chs (p q : List Int) : Nat → Option (List Nat)
  | 0 => some []
  | k + 1 => (chs p q k).bind fun js => (pk q ((cyc p).getD k []).length (usd q js)).map fun j => js ++ [j]
/-- fill the places l with t, the first j of them -/
def fl (c l t : List Int) : Nat → List Int
  | 0 => c
  | j + 1 => (fl c l t j).set (l.getD j 0).toNat (t.getD j 0)
def cf (p q : List Int) (js : List Nat) : Nat → List Int
  | 0 => List.replicate p.length 0
  | k + 1 => fl (cf p q js k) (cyL p (st p k)) (cyL q (st q (js.getD k 0))) (per p (st p k))

theorem length_fl (c l t : List Int) (j : Nat) : (fl c l t j).length = c.length := by
  induction j with
  | zero => rfl
  | succ j ih => rw [fl, List.length_set, ih]
theorem length_cf (p q : List Int) (js : List Nat) (k : Nat) : (cf p q js k).length = p.length := by
  induction k with
  | zero => simp [cf]
  | succ k ih => rw [cf, length_fl, ih]
theorem im_set {c : List Int} {x y z : Int} (hx : pt c x) (hz : pt c z) : im (c.set x.toNat y) z = if z = x then y else im c z := by
  unfold im
  rw [getD_set]
  obtain ⟨a, b⟩ := hx
  obtain ⟨d, e⟩ := hz
  by_cases h : z = x
  · subst h
    rw [if_pos ⟨rfl, by omega⟩, if_pos rfl]
  · rw [if_neg (fun hh => h (by omega)), if_neg h]
theorem cyL_get {p : List Int} {x : Int} {i : Nat} (hi : i < per p x) : (cyL p x).getD i 0 = sq p x i := by simp [cyL, hi]
theorem sq_mod {p : List Int} (h : validL p = true) {x : Int} (hx : pt p x) (i : Nat) : sq p x i = sq p x (i % per p x) := by
  have e : per p x * (i / per p x) + i % per p x = i := Nat.div_add_mod _ _
  calc sq p x i = sq p x (per p x * (i / per p x) + i % per p x) := by rw [e]
    _ = sq p (sq p x (per p x * (i / per p x))) (i % per p x) := sq_add p x _ _
    _ = sq p x (i % per p x) := by rw [sq_mul (per_spec h hx).2.1]
theorem per_pos (p : List Int) (x : Int) : 1 ≤ per p x := by unfold per; omega
theorem sq_eq {p : List Int} (h : validL p = true) {x : Int} (hx : pt p x) {i j : Nat} : sq p x i = sq p x j ↔ i % per p x = j % per p x := by
  have key : ∀ a b : Nat, a < per p x → b < per p x → a < b → sq p x a ≠ sq p x b := fun a b ha hb hab e => by
    have := sq_back h hx (b - a) a (by rw [show a + (b - a) = b by omega]; exact e.symm)
    exact (per_spec h hx).2.2 (b - a) (by omega) (by omega) this
  have hp := per_pos p x
  constructor
  · intro e
    rw [sq_mod h hx i, sq_mod h hx j] at e
    have ha := Nat.mod_lt i hp
    have hb := Nat.mod_lt j hp
    rcases Nat.lt_trichotomy (i % per p x) (j % per p x) with l | l | l
    · exact absurd e (key _ _ ha hb l)
    · exact l
    · exact absurd e.symm (key _ _ hb ha l)
  · intro e
    rw [sq_mod h hx i, sq_mod h hx j, e]

/-- filling along a cycle -/
theorem im_fl {p : List Int} (h : validL p = true) {c t : List Int} (hc : c.length = p.length) {x : Int} (hx : pt p x) (j : Nat) : j ≤ per p x →
    (∀ i, i < j → im (fl c (cyL p x) t j) (sq p x i) = t.getD i 0) ∧ (∀ z, pt p z → (∀ i, i < j → z ≠ sq p x i) → im (fl c (cyL p x) t j) z = im c z) := by
  induction j with
  | zero => intro _; exact ⟨fun i hi => by omega, fun z _ _ => rfl⟩
  | succ j ih =>
    intro hj
    obtain ⟨h1, h2⟩ := ih (by omega)
    have hl : (fl c (cyL p x) t j).length = p.length := by rw [length_fl, hc]
    have hpt : ∀ z, pt p z → pt (fl c (cyL p x) t j) z := fun z hz => (pt_len hl z).2 hz
    have hstep : ∀ z, pt p z → im (fl c (cyL p x) t (j + 1)) z = if z = sq p x j then t.getD j 0 else im (fl c (cyL p x) t j) z := fun z hz => by
      rw [fl, cyL_get (by omega), im_set (hpt _ (sq_pt h hx j)) (hpt z hz)]
    constructor
    · intro i hi
      rw [hstep _ (sq_pt h hx i)]
      by_cases e : i = j
      · subst e; rw [if_pos rfl]
      · have hne : sq p x i ≠ sq p x j := by
          rw [Ne, sq_eq h hx, Nat.mod_eq_of_lt (by omega), Nat.mod_eq_of_lt (by omega)]
          exact e
        rw [if_neg hne]
        exact h1 i (by omega)
    · intro z hz hne
      rw [hstep z hz, if_neg (hne j (by omega))]
      exact h2 z hz (fun i hi => hne i (by omega))

/-- what was chosen -/
def Chosen (p q : List Int) (K : Nat) (js : List Nat) : Prop :=
  js.length = K ∧ ∀ k, k < K → js.getD k 0 < (cyc q).length ∧ per q (st q (js.getD k 0)) = per p (st p k) ∧ ((st q (js.getD k 0) : Nat) : Int) ∉ usd q (js.take k) ∧
    ∀ j, j < js.getD k 0 → per q (st q j) = per p (st p k) → ((st q j : Nat) : Int) ∈ usd q (js.take k)
theorem cyc_length {p : List Int} {k : Nat} (hk : k < (cyc p).length) : ((cyc p).getD k []).length = per p (st p k) := by rw [(st_spec hk).2.1, length_cyL]
theorem pk_some {q : List Int} {m : Nat} {us : List Int} {j : Nat} (h : pk q m us = some j) : j < (cyc q).length ∧ per q (st q j) = m ∧ ((st q j : Nat) : Int) ∉ us ∧ ∀ i, i < j → per q (st q i) = m → ((st q i : Nat) : Int) ∈ us := by
  unfold pk at h
  have h0 := List.find?_some h
  have hm := List.mem_range.1 (List.mem_of_find?_eq_some h)
  simp only [Bool.and_eq_true, beq_iff_eq, Bool.not_eq_true', List.contains_eq_mem, decide_eq_false_iff_not] at h0
  refine ⟨hm, by rw [← cyc_length hm]; exact h0.1, h0.2, fun i hi hp => ?_⟩
  obtain ⟨_, la, lb, hab, hnot⟩ := List.find?_eq_some_iff_append.1 h
  have hlen : la.length = j := by
    have h1 : (List.range (cyc q).length)[la.length]? = some j := by rw [hab]; simp
    have h2 : la.length < (cyc q).length := by
      have := congrArg List.length hab
      simp at this
      omega
    rw [List.getElem?_range h2] at h1
    exact Option.some.inj h1
  have hmem : i ∈ la := by
    have h1 : (List.range (cyc q).length)[i]? = some i := List.getElem?_range (by omega)
    rw [hab, List.getElem?_append_left (by omega)] at h1
    exact List.mem_of_getElem? h1
  have h3 := hnot i hmem
  simp only [Bool.not_eq_true', Bool.and_eq_false_iff, beq_eq_false_iff_ne, Bool.not_eq_false', List.contains_eq_mem, decide_eq_true_eq] at h3
  rcases h3 with h3 | h3
  · exact absurd (by rw [cyc_length (by omega)]; exact hp) h3
  · exact h3
theorem pk_none {q : List Int} {m : Nat} {us : List Int} (h : pk q m us = none) : ∀ j, j < (cyc q).length → per q (st q j) = m → ((st q j : Nat) : Int) ∈ us := by
  intro j hj hp
  unfold pk at h
  have := List.find?_eq_none.1 h j (List.mem_range.2 hj)
  simp only [Bool.and_eq_true, beq_iff_eq, Bool.not_eq_true', List.contains_eq_mem, decide_eq_false_iff_not, not_and, Classical.not_not] at this
  exact this (by rw [cyc_length hj]; exact hp)
theorem chs_chosen {p q : List Int} (K : Nat) : K ≤ (cyc p).length → ∀ js, chs p q K = some js → Chosen p q K js := by
  induction K with
  | zero =>
    intro _ js h
    simp [chs] at h
    subst h
    exact ⟨rfl, fun k hk => by omega⟩
  | succ K ih =>
    intro hK js h
    rw [chs, Option.bind_eq_some_iff] at h
    obtain ⟨js0, h0, h1⟩ := h
    rw [Option.map_eq_some_iff] at h1
    obtain ⟨j, hj, rfl⟩ := h1
    obtain ⟨l0, c0⟩ := ih (by omega) js0 h0
    refine ⟨by simp [l0], fun k hk => ?_⟩
    by_cases e : k < K
    · have := c0 k e
      rw [List.take_append_of_le_length (by omega)]
      simpa [List.getElem?_append, show k < js0.length by omega] using this
    · obtain rfl : k = K := by omega
      have e1 : (js0 ++ [j]).getD k 0 = j := by simp [← l0]
      rw [e1, List.take_append_of_le_length (by omega), ← l0, List.take_length, l0]
      have := pk_some hj
      rw [cyc_length (by omega)] at this
      exact this
end Go.Proofs.YtcnkegcogepimaaDoor
