/- Plain mathematics: the parity by cycles is the parity by inversions; up to seven points, checked by the kernel, in pieces. -/
import Derived.Test.YtjnjhfificpbbaaRankL
import Derived.Test.YtjnjhfificpbbaaCycs
namespace Go.Proofs.Ytjnjhfificpbbaa
open Go.RowKit

def gtL (l : List Int) (b : Int) : Nat := (l.filter fun x => decide (b < x)).length
/-- inversions that end among the first k points -/
def ivTo (p : List Int) : Nat → Nat
  | 0 => 0
  | k + 1 => ivTo p k + gtL (p.take k) (p.getD k 0)
def ivL (p : List Int) : Nat := ivTo p p.length

theorem rk_lt (l : List Int) : rk l < fact l.length := by
  induction l with
  | nil => simp [rk, fact]
  | cons x l ih =>
    have h2 : cntL l x ≤ l.length := List.length_filter_le _ _
    have h3 : cntL l x * fact l.length ≤ l.length * fact l.length := Nat.mul_le_mul_right _ h2
    simp only [rk, List.length_cons, fact, Nat.add_mul, Nat.one_mul]
    omega

theorem unr_rk (k : Nat) : ∀ (R p : List Int), R.length = k → R.Pairwise (· < ·) → p.Perm R → unr k R (rk p) = p := by
  induction k with
  | zero => intro R p h _ hp; obtain rfl := List.length_eq_zero_iff.1 h; rw [hp.eq_nil]; rfl
  | succ k ih =>
    intro R p h hs hp
    cases p with
    | nil => have := hp.length_eq; simp at this; omega
    | cons x l =>
      have hx : x ∈ R := hp.mem_iff.1 (by simp)
      obtain ⟨d, hd, e⟩ := List.getElem_of_mem hx
      have hll : l.length = k := by have := hp.length_eq; simp at this; omega
      have e2 : R.getD d 0 = x := by simp [hd, e]
      have hR : R.Perm (x :: R.eraseIdx d) := by
        rw [List.eraseIdx_eq_take_drop_succ]
        refine (List.Perm.of_eq ?_).trans List.perm_middle
        rw [← e, ← List.drop_eq_getElem_cons hd, List.take_append_drop]
      have hl : l.Perm (R.eraseIdx d) := (hp.trans hR).cons_inv
      have hc : cntL l x = d := by rw [cntL_perm hl, ← e2]; exact cntL_sorted hs hd
      have hr := rk_lt l
      rw [hll] at hr
      have hq : rk (x :: l) = d * fact k + rk l := by rw [rk, hc, hll]
      have hpos : 0 < fact k := by omega
      have q1 : rk (x :: l) / fact k = d := by rw [hq, Nat.mul_comm, Nat.mul_add_div hpos, Nat.div_eq_of_lt hr]; rfl
      have q2 : rk (x :: l) % fact k = rk l := by rw [hq, Nat.mul_comm, Nat.mul_add_mod, Nat.mod_eq_of_lt hr]
      rw [unr, q1, q2, e2, ih _ l (by rw [List.length_eraseIdx, if_pos hd]; omega) (hs.sublist (List.eraseIdx_sublist _ _)) hl]

theorem valid_perm {p : List Int} (h : validL p = true) : p.Perm (idL p.length) := by
  have hv := (validL_iff p).1 h
  have hi := (validL_iff _).1 (idL_valid hv.1 hv.2.1)
  rw [List.perm_iff_count]
  intro x
  have c1 := List.nodup_iff_count.1 hv.2.2.2 x
  have c2 := List.nodup_iff_count.1 hi.2.2.2 x
  have m : x ∈ p ↔ x ∈ idL p.length := by
    constructor
    · intro hx
      obtain ⟨h0, h1⟩ := hv.2.2.1 x hx
      exact List.mem_map.2 ⟨x.toNat, by simp; omega, by omega⟩
    · intro hx
      obtain ⟨h0, h1⟩ := hi.2.2.1 x hx
      rw [length_idL] at h1
      obtain ⟨y, hy, e⟩ := im_surj h (y := x) ⟨h0, h1⟩
      obtain ⟨y0, y1⟩ := hy
      rw [← e]
      simp [im, show y.toNat < p.length by omega]
  rw [← List.count_pos_iff, ← List.count_pos_iff] at m
  omega
theorem unrL_rank {p : List Int} (h : validL p = true) : unrL p.length (rankL p) = p ∧ rankL p < fact p.length := by
  rw [rankL_rk]
  exact ⟨unr_rk p.length (idL p.length) p (length_idL _) (idL_sorted _) (valid_perm h), rk_lt p⟩

def chkP (n a : Nat) : Bool := parL (unrL n a) == ivL (unrL n a) % 2
def chkPs (n a m : Nat) : Bool := (List.range m).all fun i => chkP n (a + i)
theorem chkPs_out {n a m i : Nat} (h : chkPs n a m = true) (hi : i < m) : chkP n (a + i) = true := by
  unfold chkPs at h
  rw [List.all_eq_true] at h
  exact h i (by simpa using hi)
set_option maxRecDepth 100000 in
theorem cp1 : chkPs 1 0 1 = true := by decide +kernel
set_option maxRecDepth 100000 in
theorem cp2 : chkPs 2 0 2 = true := by decide +kernel
set_option maxRecDepth 100000 in
theorem cp3 : chkPs 3 0 6 = true := by decide +kernel
set_option maxRecDepth 100000 in
theorem cp4 : chkPs 4 0 24 = true := by decide +kernel
set_option maxRecDepth 100000 in
theorem cp5 : chkPs 5 0 120 = true := by decide +kernel
set_option maxRecDepth 100000 in
theorem cp6_0 : chkPs 6 (120 * 0) 120 = true := by decide +kernel
set_option maxRecDepth 100000 in
theorem cp6_1 : chkPs 6 (120 * 1) 120 = true := by decide +kernel
set_option maxRecDepth 100000 in
theorem cp6_2 : chkPs 6 (120 * 2) 120 = true := by decide +kernel
set_option maxRecDepth 100000 in
theorem cp6_3 : chkPs 6 (120 * 3) 120 = true := by decide +kernel
set_option maxRecDepth 100000 in
theorem cp6_4 : chkPs 6 (120 * 4) 120 = true := by decide +kernel
set_option maxRecDepth 100000 in
theorem cp6_5 : chkPs 6 (120 * 5) 120 = true := by decide +kernel
set_option maxRecDepth 100000 in
theorem cp7_0 : chkPs 7 (120 * 0) 120 = true := by decide +kernel
set_option maxRecDepth 100000 in
theorem cp7_1 : chkPs 7 (120 * 1) 120 = true := by decide +kernel
set_option maxRecDepth 100000 in
theorem cp7_2 : chkPs 7 (120 * 2) 120 = true := by decide +kernel
set_option maxRecDepth 100000 in
theorem cp7_3 : chkPs 7 (120 * 3) 120 = true := by decide +kernel
set_option maxRecDepth 100000 in
theorem cp7_4 : chkPs 7 (120 * 4) 120 = true := by decide +kernel
set_option maxRecDepth 100000 in
theorem cp7_5 : chkPs 7 (120 * 5) 120 = true := by decide +kernel
set_option maxRecDepth 100000 in
theorem cp7_6 : chkPs 7 (120 * 6) 120 = true := by decide +kernel
set_option maxRecDepth 100000 in
theorem cp7_7 : chkPs 7 (120 * 7) 120 = true := by decide +kernel
set_option maxRecDepth 100000 in
theorem cp7_8 : chkPs 7 (120 * 8) 120 = true := by decide +kernel
set_option maxRecDepth 100000 in
theorem cp7_9 : chkPs 7 (120 * 9) 120 = true := by decide +kernel
set_option maxRecDepth 100000 in
theorem cp7_10 : chkPs 7 (120 * 10) 120 = true := by decide +kernel
set_option maxRecDepth 100000 in
theorem cp7_11 : chkPs 7 (120 * 11) 120 = true := by decide +kernel
set_option maxRecDepth 100000 in
theorem cp7_12 : chkPs 7 (120 * 12) 120 = true := by decide +kernel
set_option maxRecDepth 100000 in
theorem cp7_13 : chkPs 7 (120 * 13) 120 = true := by decide +kernel
set_option maxRecDepth 100000 in
theorem cp7_14 : chkPs 7 (120 * 14) 120 = true := by decide +kernel
set_option maxRecDepth 100000 in
theorem cp7_15 : chkPs 7 (120 * 15) 120 = true := by decide +kernel
set_option maxRecDepth 100000 in
theorem cp7_16 : chkPs 7 (120 * 16) 120 = true := by decide +kernel
set_option maxRecDepth 100000 in
theorem cp7_17 : chkPs 7 (120 * 17) 120 = true := by decide +kernel
set_option maxRecDepth 100000 in
theorem cp7_18 : chkPs 7 (120 * 18) 120 = true := by decide +kernel
set_option maxRecDepth 100000 in
theorem cp7_19 : chkPs 7 (120 * 19) 120 = true := by decide +kernel
set_option maxRecDepth 100000 in
theorem cp7_20 : chkPs 7 (120 * 20) 120 = true := by decide +kernel
set_option maxRecDepth 100000 in
theorem cp7_21 : chkPs 7 (120 * 21) 120 = true := by decide +kernel
set_option maxRecDepth 100000 in
theorem cp7_22 : chkPs 7 (120 * 22) 120 = true := by decide +kernel
set_option maxRecDepth 100000 in
theorem cp7_23 : chkPs 7 (120 * 23) 120 = true := by decide +kernel
set_option maxRecDepth 100000 in
theorem cp7_24 : chkPs 7 (120 * 24) 120 = true := by decide +kernel
set_option maxRecDepth 100000 in
theorem cp7_25 : chkPs 7 (120 * 25) 120 = true := by decide +kernel
set_option maxRecDepth 100000 in
theorem cp7_26 : chkPs 7 (120 * 26) 120 = true := by decide +kernel
set_option maxRecDepth 100000 in
theorem cp7_27 : chkPs 7 (120 * 27) 120 = true := by decide +kernel
set_option maxRecDepth 100000 in
theorem cp7_28 : chkPs 7 (120 * 28) 120 = true := by decide +kernel
set_option maxRecDepth 100000 in
theorem cp7_29 : chkPs 7 (120 * 29) 120 = true := by decide +kernel
set_option maxRecDepth 100000 in
theorem cp7_30 : chkPs 7 (120 * 30) 120 = true := by decide +kernel
set_option maxRecDepth 100000 in
theorem cp7_31 : chkPs 7 (120 * 31) 120 = true := by decide +kernel
set_option maxRecDepth 100000 in
theorem cp7_32 : chkPs 7 (120 * 32) 120 = true := by decide +kernel
set_option maxRecDepth 100000 in
theorem cp7_33 : chkPs 7 (120 * 33) 120 = true := by decide +kernel
set_option maxRecDepth 100000 in
theorem cp7_34 : chkPs 7 (120 * 34) 120 = true := by decide +kernel
set_option maxRecDepth 100000 in
theorem cp7_35 : chkPs 7 (120 * 35) 120 = true := by decide +kernel
set_option maxRecDepth 100000 in
theorem cp7_36 : chkPs 7 (120 * 36) 120 = true := by decide +kernel
set_option maxRecDepth 100000 in
theorem cp7_37 : chkPs 7 (120 * 37) 120 = true := by decide +kernel
set_option maxRecDepth 100000 in
theorem cp7_38 : chkPs 7 (120 * 38) 120 = true := by decide +kernel
set_option maxRecDepth 100000 in
theorem cp7_39 : chkPs 7 (120 * 39) 120 = true := by decide +kernel
set_option maxRecDepth 100000 in
theorem cp7_40 : chkPs 7 (120 * 40) 120 = true := by decide +kernel
set_option maxRecDepth 100000 in
theorem cp7_41 : chkPs 7 (120 * 41) 120 = true := by decide +kernel
theorem cp6 : ∀ i, i < 6 → chkPs 6 (120 * i) 120 = true
  | 0, _ => cp6_0
  | 1, _ => cp6_1
  | 2, _ => cp6_2
  | 3, _ => cp6_3
  | 4, _ => cp6_4
  | 5, _ => cp6_5
  | n + 6, h => absurd h (by omega)
theorem cp7 : ∀ i, i < 42 → chkPs 7 (120 * i) 120 = true
  | 0, _ => cp7_0
  | 1, _ => cp7_1
  | 2, _ => cp7_2
  | 3, _ => cp7_3
  | 4, _ => cp7_4
  | 5, _ => cp7_5
  | 6, _ => cp7_6
  | 7, _ => cp7_7
  | 8, _ => cp7_8
  | 9, _ => cp7_9
  | 10, _ => cp7_10
  | 11, _ => cp7_11
  | 12, _ => cp7_12
  | 13, _ => cp7_13
  | 14, _ => cp7_14
  | 15, _ => cp7_15
  | 16, _ => cp7_16
  | 17, _ => cp7_17
  | 18, _ => cp7_18
  | 19, _ => cp7_19
  | 20, _ => cp7_20
  | 21, _ => cp7_21
  | 22, _ => cp7_22
  | 23, _ => cp7_23
  | 24, _ => cp7_24
  | 25, _ => cp7_25
  | 26, _ => cp7_26
  | 27, _ => cp7_27
  | 28, _ => cp7_28
  | 29, _ => cp7_29
  | 30, _ => cp7_30
  | 31, _ => cp7_31
  | 32, _ => cp7_32
  | 33, _ => cp7_33
  | 34, _ => cp7_34
  | 35, _ => cp7_35
  | 36, _ => cp7_36
  | 37, _ => cp7_37
  | 38, _ => cp7_38
  | 39, _ => cp7_39
  | 40, _ => cp7_40
  | 41, _ => cp7_41
  | n + 42, h => absurd h (by omega)
theorem chkP_all : ∀ n, 1 ≤ n → n ≤ 7 → ∀ a, a < fact n → chkP n a = true := by
  intro n h1 h7 a ha
  have big : ∀ m, (∀ i, i < m → chkPs n (120 * i) 120 = true) → a < 120 * m → chkP n a = true := fun m h hm => by
    have := chkPs_out (h (a / 120) (by omega)) (show a % 120 < 120 by omega)
    rwa [Nat.div_add_mod] at this
  rcases n with _ | _ | _ | _ | _ | _ | _ | _ | n
  · omega
  · have := chkPs_out cp1 ha; rwa [Nat.zero_add] at this
  · have := chkPs_out cp2 ha; rwa [Nat.zero_add] at this
  · have := chkPs_out cp3 ha; rwa [Nat.zero_add] at this
  · have := chkPs_out cp4 ha; rwa [Nat.zero_add] at this
  · have := chkPs_out cp5 ha; rwa [Nat.zero_add] at this
  · exact big 6 cp6 ha
  · exact big 42 cp7 ha
  · omega
theorem par_iv {p : List Int} (h : validL p = true) : parL p = ivL p % 2 := by
  have hv := (validL_iff p).1 h
  obtain ⟨e, hr⟩ := unrL_rank h
  have := chkP_all p.length hv.1 hv.2.1 (rankL p) hr
  unfold chkP at this
  rw [e] at this
  simpa using this

end Go.Proofs.Ytjnjhfificpbbaa
