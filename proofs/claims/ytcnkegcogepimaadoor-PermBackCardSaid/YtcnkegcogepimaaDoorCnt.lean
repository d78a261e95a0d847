/- Plain mathematics: two permutations of one length are conjugate just if they have as many cycles of each length; nothing here speaks of the program. -/
import Derived.Test.YtcnkegcogepimaaDoorConjN
import Derived.Test.YtcnkegcogepimaaDoorCycs2
namespace Go.Proofs.YtcnkegcogepimaaDoor
open Go.RowKit

/-- how many cycles have the length m -/
def numC (p : List Int) (m : Nat) : Nat := ((cyc p).filter fun c => c.length == m).length

theorem flat_len (m : Nat) : ∀ L : List (List Int), (∀ c, c ∈ L → c.length = m) → L.flatten.length = m * L.length := by
  intro L
  induction L with
  | nil => intro _; simp
  | cons c L ih =>
    intro h
    rw [List.flatten_cons, List.length_append, ih (fun d hd => h d (by simp [hd])), h c (by simp), List.length_cons, Nat.mul_add]
    omega
theorem cyL_nodup {p : List Int} (h : validL p = true) {x : Int} (hx : pt p x) : (cyL p x).Nodup := by
  unfold cyL
  rw [List.nodup_iff_pairwise_ne, List.pairwise_map]
  refine List.Pairwise.imp_of_mem ?_ (List.pairwise_lt_range (n := per p x))
  intro i j hi hj hij e
  have hi := List.mem_range.1 hi
  have hj := List.mem_range.1 hj
  have := (sq_eq h hx).1 e
  rw [Nat.mod_eq_of_lt hi, Nat.mod_eq_of_lt hj] at this
  omega
theorem cyc_mem {p : List Int} {c : List Int} (hc : c ∈ cyc p) : ∃ k, k < (cyc p).length ∧ c = cyL p (st p k) := by
  obtain ⟨k, hk, e⟩ := List.getElem_of_mem hc
  refine ⟨k, hk, ?_⟩
  rw [← (st_spec hk).2.1, ← e]
  simp [hk]
theorem cyc_flat_nodup {p : List Int} (h : validL p = true) : (cyc p).flatten.Nodup := by
  rw [List.nodup_iff_pairwise_ne, List.pairwise_flatten]
  refine ⟨fun c hc => ?_, ?_⟩
  · obtain ⟨k, hk, rfl⟩ := cyc_mem hc
    exact cyL_nodup h (st_pt hk)
  · rw [List.pairwise_iff_getElem]
    intro i j hi hj hij x hx y hy e
    subst e
    have e1 : (cyc p)[i] = cyL p (st p i) := by rw [← (st_spec hi).2.1]; simp [hi]
    have e2 : (cyc p)[j] = cyL p (st p j) := by rw [← (st_spec hj).2.1]; simp [hj]
    rw [e1] at hx
    rw [e2] at hy
    have := st_apart h hi hj hx hy
    omega

theorem flat_sub {l1 l2 : List (List Int)} (h : l1.Sublist l2) : l1.flatten.Sublist l2.flatten := by
  induction h with
  | slnil => exact List.Sublist.refl _
  | cons c _ ih =>
    rw [List.flatten_cons]
    exact ih.trans (List.sublist_append_right _ _)
  | cons_cons c _ ih =>
    rw [List.flatten_cons, List.flatten_cons]
    exact List.Sublist.append (List.Sublist.refl _) ih

theorem cntP_numC {p : List Int} (h : validL p = true) (m : Nat) : cntP p m = m * numC p m := by
  unfold numC
  rw [← flat_len m ((cyc p).filter fun c => c.length == m) (fun c hc => by simpa using (List.mem_filter.1 hc).2)]
  unfold cntP
  have hmem : ∀ x, x ∈ ((cyc p).filter fun c => c.length == m).flatten ↔ x ∈ (idL p.length).filter fun x => per p x == m := by
    intro x
    rw [List.mem_flatten, List.mem_filter]
    constructor
    · rintro ⟨c, hc, hx⟩
      obtain ⟨h1, h2⟩ := List.mem_filter.1 hc
      obtain ⟨k, hk, rfl⟩ := cyc_mem h1
      rw [length_cyL] at h2
      have hp := cyL_pt h (st_pt hk) x hx
      exact ⟨mem_idL.2 hp, by rw [per_mem h (st_pt hk) hx]; exact h2⟩
    · rintro ⟨h1, h2⟩
      obtain ⟨a, b⟩ := mem_idL.1 h1
      obtain ⟨n, rfl⟩ := Int.eq_ofNat_of_zero_le a
      obtain ⟨k, hk, hm, _⟩ := st_cover (p := p) n (by omega)
      refine ⟨cyL p (st p k), List.mem_filter.2 ⟨?_, ?_⟩, hm⟩
      · rw [← (st_spec hk).2.1]; simp [hk]
      · rw [length_cyL, ← per_mem h (st_pt hk) hm]; exact h2
  have n1 : ((cyc p).filter fun c => c.length == m).flatten.Nodup := by
    refine List.Nodup.sublist ?_ (cyc_flat_nodup h)
    exact flat_sub (List.filter_sublist)
  have n2 : ((idL p.length).filter fun x => per p x == m).Nodup := (idL_nodup _).filter _
  exact Nat.le_antisymm (nodup_sub _ _ n2 (fun x hx => (hmem x).2 hx)) (nodup_sub _ _ n1 (fun x hx => (hmem x).1 hx))

theorem sum_cnt (f : Int → Nat) : ∀ l : List Int, (∀ x, x ∈ l → 1 ≤ f x ∧ f x ≤ 7) →
    l.length = (l.filter fun x => f x == 1).length + (l.filter fun x => f x == 2).length + (l.filter fun x => f x == 3).length + (l.filter fun x => f x == 4).length + (l.filter fun x => f x == 5).length + (l.filter fun x => f x == 6).length + (l.filter fun x => f x == 7).length := by
  intro l
  induction l with
  | nil => intro _; rfl
  | cons x l ih =>
    intro h
    have ih := ih (fun y hy => h y (by simp [hy]))
    obtain ⟨h1, h7⟩ := h x (by simp)
    have : f x = 1 ∨ f x = 2 ∨ f x = 3 ∨ f x = 4 ∨ f x = 5 ∨ f x = 6 ∨ f x = 7 := by omega
    rcases this with e | e | e | e | e | e | e <;> simp [e] <;> omega

theorem per_le7 {p : List Int} (h : validL p = true) {x : Int} (hx : pt p x) : per p x ≤ 7 := by
  have := (per_spec h hx).1
  have := ((validL_iff p).1 h).2.1
  omega
theorem cntP_sum {p : List Int} (h : validL p = true) : p.length = cntP p 1 + cntP p 2 + cntP p 3 + cntP p 4 + cntP p 5 + cntP p 6 + cntP p 7 := by
  have := sum_cnt (per p) (idL p.length) (fun x hx => ⟨per_pos p x, per_le7 h (mem_idL.1 hx)⟩)
  rw [length_idL] at this
  exact this
theorem cntP_out {p : List Int} (h : validL p = true) {m : Nat} (hm : m = 0 ∨ 7 < m) : cntP p m = 0 := by
  unfold cntP
  rw [List.length_eq_zero_iff, List.filter_eq_nil_iff]
  intro x hx
  have h1 := per_pos p x
  have h2 := per_le7 h (x := x) (mem_idL.1 hx)
  simp
  omega

/-- how many of the cycles of at least two points have each length up to 7 -/
def lenTo (L : List (List Int)) (k : Nat) : List Int := (List.range 8).map fun m => (((L.take k).filter fun c => c.length == m).length : Int)
def lenL (p : List Int) : List Int := lenTo (longL p) (longL p).length
theorem length_lenTo (L : List (List Int)) (k : Nat) : (lenTo L k).length = 8 := by simp [lenTo]
theorem lenTo_zero (L : List (List Int)) : lenTo L 0 = List.replicate 8 0 := by simp [lenTo]; rfl
theorem lenTo_get (L : List (List Int)) (k m : Nat) (hm : m < 8) : (lenTo L k).getD m 0 = (((L.take k).filter fun c => c.length == m).length : Int) := by simp [lenTo, hm]
theorem lenTo_succ (L : List (List Int)) (k : Nat) (hk : k < L.length) (h8 : (L.getD k []).length < 8) : lenTo L (k + 1) = (lenTo L k).set (L.getD k []).length ((lenTo L k).getD (L.getD k []).length 0 + 1) := by
  apply List.ext_getElem
  · simp [lenTo]
  intro m h1 h2
  have hm : m < 8 := by simpa [lenTo] using h1
  rw [List.getElem_set]
  have e : L.take (k + 1) = L.take k ++ [L.getD k []] := by rw [List.take_succ_eq_append_getElem hk]; simp [hk]
  have e1 : ∀ h, (lenTo L (k + 1))[m]'h = (((L.take (k + 1)).filter fun c => c.length == m).length : Int) := fun h => by simp [lenTo]
  have e2 : ∀ h, (lenTo L k)[m]'h = (((L.take k).filter fun c => c.length == m).length : Int) := fun h => by simp [lenTo]
  refine (e1 h1).trans ?_
  rw [e2, lenTo_get _ _ _ h8, e, List.filter_append, List.length_append]
  by_cases hc : (L.getD k []).length = m
  · rw [if_pos hc, hc]
    have : ∀ c : List Int, c.length = m → ([c].filter fun c => c.length == m).length = 1 := fun c h => by simp [h]
    rw [this _ hc]; omega
  · rw [if_neg hc]
    have : ∀ c : List Int, c.length ≠ m → ([c].filter fun c => c.length == m).length = 0 := fun c h => by simp [h]
    rw [this _ hc]; omega
theorem lenL_get {p : List Int} {m : Nat} (h2 : 2 ≤ m) (h7 : m ≤ 7) : (lenL p).getD m 0 = (numC p m : Int) := by
  unfold lenL
  rw [lenTo_get _ _ _ (by omega), List.take_length]
  unfold numC longL
  rw [List.filter_filter]
  congr 2
  apply List.filter_congr
  intro c _
  by_cases e : c.length = m
  · simp [e]; omega
  · simp [e]
theorem lenL_small {p : List Int} {m : Nat} (h : m < 2) : (lenL p).getD m 0 = 0 := by
  unfold lenL
  rw [lenTo_get _ _ _ (by omega), List.take_length]
  unfold longL
  rw [List.filter_filter]
  have : ((cyc p).filter fun c => (c.length == m) && decide (1 < c.length)) = [] := by
    rw [List.filter_eq_nil_iff]
    intro c _
    simp
    omega
  rw [this]; rfl

theorem lenL_cnt {p q : List Int} (hp : validL p = true) (hq : validL q = true) (hl : p.length = q.length) : lenL p = lenL q ↔ ∀ m, cntP p m = cntP q m := by
  constructor
  · intro e
    have key : ∀ m, 2 ≤ m → m ≤ 7 → cntP p m = cntP q m := fun m h2 h7 => by
      have h := lenL_get (p := p) h2 h7
      rw [e, lenL_get h2 h7] at h
      rw [cntP_numC hp, cntP_numC hq]
      congr 1
      omega
    intro m
    by_cases h0 : m = 0 ∨ 7 < m
    · rw [cntP_out hp h0, cntP_out hq h0]
    by_cases h1 : m = 1
    · subst h1
      have s1 := cntP_sum hp
      have s2 := cntP_sum hq
      have k2 := key 2 (by omega) (by omega)
      have k3 := key 3 (by omega) (by omega)
      have k4 := key 4 (by omega) (by omega)
      have k5 := key 5 (by omega) (by omega)
      have k6 := key 6 (by omega) (by omega)
      have k7 := key 7 (by omega) (by omega)
      omega
    · exact key m (by omega) (by omega)
  · intro h
    have hg : ∀ m, (lenL p).getD m 0 = (lenL q).getD m 0 := fun m => by
      by_cases h2 : m < 2
      · rw [lenL_small h2, lenL_small h2]
      · by_cases h7 : m ≤ 7
        · rw [lenL_get (by omega) h7, lenL_get (by omega) h7]
          have := h m
          rw [cntP_numC hp, cntP_numC hq] at this
          have := Nat.eq_of_mul_eq_mul_left (by omega) this
          omega
        · have e1 : (lenL p).length = 8 := length_lenTo _ _
          have e2 : (lenL q).length = 8 := length_lenTo _ _
          simp [show (lenL p).length ≤ m by omega, show (lenL q).length ≤ m by omega]
    apply List.ext_getElem
    · unfold lenL; rw [length_lenTo, length_lenTo]
    intro m h1 h2
    have := hg m
    simpa [h1, h2] using this

theorem chs_iff {p q : List Int} (hp : validL p = true) (hq : validL q = true) (hl : p.length = q.length) : (chs p q (cyc p).length).isSome = decide (lenL p = lenL q) := by
  rw [Bool.eq_iff_iff, decide_eq_true_iff, lenL_cnt hp hq hl]
  constructor
  · intro h
    obtain ⟨js, hjs⟩ := Option.isSome_iff_exists.1 h
    have hc := cf_conj hp hq hl (chs_chosen _ (Nat.le_refl _) js hjs)
    exact fun m => conj_cnt hp hq hl hc m
  · intro h
    obtain ⟨js, hjs⟩ := chs_ok hp hq h (cyc p).length (Nat.le_refl _)
    rw [hjs]; rfl

/-- the permutation that c makes of p has c as a conjugating one, so there is a first, and c is not before it -/
theorem conj_own {p c : List Int} (hp : validL p = true) (hc : validL c = true) (hl : c.length = p.length) :
    ∃ js, chs p (mulL (mulL (invL c) p) c) (cyc p).length = some js ∧ lessL c (cf p (mulL (mulL (invL c) p) c) js (cyc p).length) = false := by
  have hil : (invL c).length = c.length := length_invL c
  have hm1 : validL (mulL (invL c) p) = true := mulL_valid (invL_valid hc) hp (by rw [hil]; exact hl)
  have hl1 : (mulL (invL c) p).length = c.length := by rw [length_mulL, hil]
  have hq : validL (mulL (mulL (invL c) p) c) = true := mulL_valid hm1 hc hl1
  have hl2 : p.length = (mulL (mulL (invL c) p) c).length := by rw [length_mulL, hl1, hl]
  have hcj : Conj p (mulL (mulL (invL c) p) c) c := (conj_iff hl2 hc hl).1 rfl
  obtain ⟨js, hjs⟩ := chs_ok hp hq (fun m => conj_cnt hp hq hl2 hcj m) (cyc p).length (Nat.le_refl _)
  exact ⟨js, hjs, cf_first hp hq hl2 (chs_chosen _ (Nat.le_refl _) js hjs) hcj⟩
theorem conj_mul {p q : List Int} (hp : validL p = true) (hq : validL q = true) (hl : p.length = q.length) {js : List Nat} (hjs : chs p q (cyc p).length = some js) :
    validL (cf p q js (cyc p).length) = true ∧ mulL (mulL (invL (cf p q js (cyc p).length)) p) (cf p q js (cyc p).length) = q := by
  have hc := cf_conj hp hq hl (chs_chosen _ (Nat.le_refl _) js hjs)
  exact ⟨hc.1, (conj_iff hl hc.1 hc.2.1).2 hc⟩
end Go.Proofs.YtcnkegcogepimaaDoor
