/- Plain mathematics: the cycles of a permutation, by their number: they rise by their first points, cover all points, and are apart. -/
import Derived.Test.YtcnkegcogepimaaDoorCycL
import Derived.Test.YtcnkegcogepimaaDoorPowL
import Derived.Test.YtcnkegcogepimaaDoorRefC
namespace Go.Proofs.YtcnkegcogepimaaDoor
open Go.RowKit

theorem cyTo_len_mono (p : List Int) {a b : Nat} (h : a ≤ b) : (cyTo p a).1.length ≤ (cyTo p b).1.length := (cyTo_prefix p a b h).length_le

theorem cyTo_start (p : List Int) (n : Nat) : ∀ k, k < (cyTo p n).1.length → ∃ x : Nat, x < n ∧ (cyTo p n).1.getD k [] = cyL p x ∧ (x : Int) ∉ (cyTo p x).2 ∧ (cyTo p x).1.length = k := by
  induction n with
  | zero => intro k h; simp [cyTo] at h
  | succ n ih =>
    intro k h
    by_cases hm : (n : Int) ∈ (cyTo p n).2
    · rw [cyTo_old hm] at h ⊢
      obtain ⟨x, h1, h2⟩ := ih k h
      exact ⟨x, by omega, h2⟩
    · rw [cyTo_new hm] at h ⊢
      simp only [List.length_append, List.length_singleton] at h
      by_cases e : k < (cyTo p n).1.length
      · obtain ⟨x, h1, h2, h3⟩ := ih k e
        refine ⟨x, by omega, ?_, h3⟩
        rw [← h2]
        simp [List.getElem?_append, e]
      · have hk : k = (cyTo p n).1.length := by omega
        refine ⟨n, by omega, ?_, hm, hk.symm⟩
        rw [hk]
        simp
/-- the first point of the k-th cycle -/
def st (p : List Int) (k : Nat) : Nat := (((cyc p).getD k []).headD 0).toNat
theorem cyL_head (p : List Int) (x : Int) : (cyL p x).headD 0 = x := by
  have : cyL p x = sq p x 0 :: ((List.range (per p x)).map (sq p x)).tail := by
    unfold cyL
    cases h : per p x with
    | zero => unfold per at h; omega
    | succ m => simp [List.range_succ_eq_map]
  rw [this]
  rfl
theorem st_spec {p : List Int} {k : Nat} (hk : k < (cyc p).length) : st p k < p.length ∧ (cyc p).getD k [] = cyL p (st p k) ∧ ((st p k : Nat) : Int) ∉ (cyTo p (st p k)).2 ∧ (cyTo p (st p k)).1.length = k := by
  obtain ⟨x, h1, h2, h3⟩ := cyTo_start p p.length k hk
  have e : st p k = x := by
    unfold st
    rw [show (cyc p).getD k [] = cyL p x from h2, cyL_head]
    rfl
  rw [e]
  exact ⟨h1, h2, h3⟩
theorem st_lt {p : List Int} {i k : Nat} (hik : i < k) (hk : k < (cyc p).length) : st p i < st p k := by
  have h1 := (st_spec (p := p) (k := i) (by omega)).2.2.2
  have h2 := (st_spec hk).2.2.2
  rcases Nat.lt_or_ge (st p i) (st p k) with h | h
  · exact h
  · have := cyTo_len_mono p h
    omega
theorem st_cover {p : List Int} (z : Nat) (hz : z < p.length) : ∃ k, k < (cyc p).length ∧ (z : Int) ∈ cyL p (st p k) ∧ st p k ≤ z := by
  obtain ⟨h1, h2⟩ := cyTo_cover p (z + 1)
  obtain ⟨x, hx, hc, hm⟩ := h2 _ (h1 z (by omega))
  obtain ⟨k, hk, e⟩ := List.getElem_of_mem hc
  have hpre := cyTo_prefix p (z + 1) p.length (by omega)
  have hk2 : k < (cyc p).length := by have := hpre.length_le; unfold cyc; omega
  have e2 : (cyc p).getD k [] = cyL p x := by
    obtain ⟨t, ht⟩ := hpre
    have hh : (cyTo p p.length).1.getD k [] = cyL p x := by
      rw [← ht]
      simp [List.getElem?_append, hk, e]
    exact hh
  have e3 : st p k = x := by
    unfold st
    rw [e2, cyL_head]
    rfl
  exact ⟨k, hk2, by rw [e3]; exact hm, by omega⟩
/-- the points of the cycles before the k-th were seen before its first point -/
theorem st_seen {p : List Int} {k : Nat} (hk : k < (cyc p).length) (y : Int) : y ∈ (cyTo p (st p k)).2 ↔ ∃ i, i < k ∧ y ∈ cyL p (st p i) := by
  obtain ⟨s1, s2, s3, s4⟩ := st_spec hk
  constructor
  · intro hy
    obtain ⟨x, hx, hc, hm⟩ := (cyTo_cover p (st p k)).2 y hy
    obtain ⟨i, hi, e⟩ := List.getElem_of_mem hc
    have hpre := cyTo_prefix p (st p k) p.length (by omega)
    have e2 : (cyc p).getD i [] = cyL p x := by
      obtain ⟨t, ht⟩ := hpre
      have hh : (cyTo p p.length).1.getD i [] = cyL p x := by
        rw [← ht]
        simp [List.getElem?_append, hi, e]
      exact hh
    have e3 : st p i = x := by
      unfold st
      rw [e2, cyL_head]
      rfl
    exact ⟨i, by omega, by rw [e3]; exact hm⟩
  · rintro ⟨i, hi, hy⟩
    have hlt := st_lt hi hk
    have hnew : ∀ m, st p i < m → ∀ y, y ∈ cyL p (st p i) → y ∈ (cyTo p m).2 := by
      intro m
      induction m with
      | zero => intro h; omega
      | succ m ih =>
        intro h y hy
        by_cases e : m = st p i
        · subst e
          rw [cyTo_new (st_spec (p := p) (k := i) (by omega)).2.2.1]
          exact List.mem_append.2 (.inr hy)
        · have := ih (by omega) y hy
          by_cases hm : (m : Int) ∈ (cyTo p m).2
          · rw [cyTo_old hm]; exact this
          · rw [cyTo_new hm]; exact List.mem_append.2 (.inl this)
    exact hnew _ hlt y hy
theorem cyL_mem {p : List Int} (h : validL p = true) {x y : Int} (hx : pt p x) : y ∈ cyL p x ↔ ∃ j, y = sq p x j := by
  constructor
  · intro hy
    obtain ⟨i, _, e⟩ := List.mem_map.1 hy
    exact ⟨i, e.symm⟩
  · rintro ⟨j, rfl⟩
    induction j with
    | zero => exact cyL_self p x
    | succ j ih => exact cyL_closed h hx ih
theorem cyL_back {p : List Int} (h : validL p = true) {x y : Int} (hx : pt p x) (hy : y ∈ cyL p x) : x ∈ cyL p y := by
  obtain ⟨i, hi, e⟩ := List.mem_map.1 hy
  have hi := List.mem_range.1 hi
  have hpy : pt p y := by rw [← e]; exact sq_pt h hx i
  refine (cyL_mem h hpy).2 ⟨per p x - i, ?_⟩
  rw [← e, ← sq_add, show i + (per p x - i) = per p x by omega]
  exact (per_spec h hx).2.1.symm
theorem cyL_trans {p : List Int} (h : validL p = true) {x y z : Int} (hx : pt p x) (hy : y ∈ cyL p x) (hz : z ∈ cyL p y) : z ∈ cyL p x := by
  obtain ⟨i, e⟩ := (cyL_mem h hx).1 hy
  obtain ⟨j, e2⟩ := (cyL_mem h (cyL_pt h hx y hy)).1 hz
  exact (cyL_mem h hx).2 ⟨i + j, by rw [sq_add, ← e, e2]⟩
theorem st_pt {p : List Int} {k : Nat} (hk : k < (cyc p).length) : pt p (st p k) := by
  have := (st_spec hk).1
  exact ⟨by omega, by omega⟩
theorem st_apart {p : List Int} (h : validL p = true) {i k : Nat} (hi : i < (cyc p).length) (hk : k < (cyc p).length) {z : Int} (h1 : z ∈ cyL p (st p i)) (h2 : z ∈ cyL p (st p k)) : i = k := by
  have key : ∀ i k, i < k → k < (cyc p).length → z ∈ cyL p (st p i) → z ∈ cyL p (st p k) → False := fun i k hik hk h1 h2 => by
    have hi : i < (cyc p).length := by omega
    have h3 := cyL_trans h (st_pt hi) h1 (cyL_back h (st_pt hk) h2)
    exact (st_spec hk).2.2.1 ((st_seen hk _).2 ⟨i, hik, h3⟩)
  rcases Nat.lt_trichotomy i k with e | e | e
  · exact (key i k e hk h1 h2).elim
  · exact e
  · exact (key k i e hi h2 h1).elim
end Go.Proofs.YtcnkegcogepimaaDoor
