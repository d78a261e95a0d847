/- Plain mathematics: the chosen permutation conjugates, and none before it does. -/
import Derived.Test.YtcnkegcogepimaaDoorConjL
namespace Go.Proofs.YtcnkegcogepimaaDoor
open Go.RowKit

theorem mem_usd {q : List Int} {js : List Nat} {y : Int} : y ∈ usd q js ↔ ∃ j, j ∈ js ∧ y ∈ cyL q (st q j) := by
  unfold usd
  rw [List.mem_flatMap]
theorem cf_val {p q : List Int} (hp : validL p = true) (hq : validL q = true) (js : List Nat) (K : Nat) : K ≤ (cyc p).length →
    (∀ k, k < K → js.getD k 0 < (cyc q).length ∧ per q (st q (js.getD k 0)) = per p (st p k)) →
    ∀ k, k < K → ∀ i, im (cf p q js K) (sq p (st p k) i) = sq q (st q (js.getD k 0)) i := by
  induction K with
  | zero => intro _ _ k hk; omega
  | succ K ih =>
    intro hK H k hk i
    have hx := st_pt (p := p) (k := K) (by omega)
    have hxk := st_pt (p := p) (k := k) (by omega)
    obtain ⟨f1, f2⟩ := im_fl hp (c := cf p q js K) (t := cyL q (st q (js.getD K 0))) (length_cf p q js K) hx (per p (st p K)) (Nat.le_refl _)
    rw [cf]
    by_cases e : k = K
    · subst e
      obtain ⟨hj, hper⟩ := H k (by omega)
      rw [sq_mod hp hx i, sq_mod hq (st_pt hj) i, hper]
      have hlt := Nat.mod_lt i (per_pos p (st p k))
      rw [f1 _ hlt, cyL_get (by rw [hper]; exact hlt)]
    · rw [f2 _ (sq_pt hp hxk i) (fun i' _ he => by
        have m1 := (cyL_mem hp hxk).2 ⟨i, rfl⟩
        have m2 := (cyL_mem hp hx).2 ⟨i', he⟩
        exact e (st_apart hp (by omega) (by omega) m1 m2))]
      exact ih (by omega) (fun k hk => H k (by omega)) k (by omega) i

theorem pt_cycle {p : List Int} (hp : validL p = true) {z : Int} (hz : pt p z) : ∃ k, k < (cyc p).length ∧ ((st p k : Nat) : Int) ≤ z ∧ ∃ i, z = sq p (st p k) i := by
  obtain ⟨a, b⟩ := hz
  obtain ⟨n, rfl⟩ := Int.eq_ofNat_of_zero_le a
  obtain ⟨k, hk, hm, hl⟩ := st_cover (p := p) n (by omega)
  exact ⟨k, hk, by omega, (cyL_mem hp (st_pt hk)).1 hm⟩

/-- d conjugates p to q -/
def Conj (p q d : List Int) : Prop := validL d = true ∧ d.length = p.length ∧ ∀ z, pt p z → im d (im p z) = im q (im d z)
theorem conj_iff {p q d : List Int} (hl : p.length = q.length) (hd : validL d = true) (hdl : d.length = p.length) :
    mulL (mulL (invL d) p) d = q ↔ Conj p q d := by
  have hval : ∀ y, pt d y → im (mulL (mulL (invL d) p) d) y = im d (im p (im (invL d) y)) := fun y hy => by
    have h1 : pt (invL d) y := (pt_len (length_invL d) y).2 hy
    have h2 : pt (mulL (invL d) p) y := (pt_len (length_mulL _ _) y).2 h1
    rw [im_mulL h2, im_mulL h1]
  constructor
  · intro e
    refine ⟨hd, hdl, fun z hz => ?_⟩
    have hzd : pt d z := (pt_len hdl z).2 hz
    have := hval (im d z) (im_pt hd hzd)
    rw [e, im_inv hd hzd] at this
    exact this.symm
  · rintro ⟨_, _, h⟩
    refine ext_im (by rw [length_mulL, length_mulL, length_invL]; omega) (fun y hy => ?_)
    have hyd : pt d y := (pt_len (by rw [length_mulL, length_mulL, length_invL]) y).1 hy
    obtain ⟨h1, h2⟩ := inv_im hd hyd
    rw [hval y hyd, h _ ((pt_len hdl _).1 h1), h2]

theorem conj_sq {p q d : List Int} (hp : validL p = true) (h : Conj p q d) {x : Int} (hx : pt p x) (i : Nat) : im d (sq p x i) = sq q (im d x) i := by
  induction i with
  | zero => rfl
  | succ i ih =>
    show im d (im p (sq p x i)) = im q (sq q (im d x) i)
    rw [h.2.2 _ (sq_pt hp hx i), ih]
theorem conj_pt {p q d : List Int} (hl : p.length = q.length) (h : Conj p q d) {x : Int} (hx : pt p x) : pt q (im d x) :=
  (pt_len (by rw [h.2.1]; exact hl) _).1 (im_pt h.1 ((pt_len h.2.1 x).2 hx))
theorem conj_per {p q d : List Int} (hp : validL p = true) (hq : validL q = true) (hl : p.length = q.length) (h : Conj p q d) {x : Int} (hx : pt p x) : per q (im d x) = per p x := by
  have hy := conj_pt hl h hx
  have e : ∀ k, sq q (im d x) k = im d x ↔ sq p x k = x := fun k => by
    rw [← conj_sq hp h hx k]
    constructor
    · intro e
      exact im_inj h.1 ((pt_len h.2.1 _).2 (sq_pt hp hx k)) ((pt_len h.2.1 _).2 hx) e
    · intro e; rw [e]
  refine Nat.dvd_antisymm ?_ ?_
  · exact (sq_dvd hq hy _).1 ((e _).2 (per_spec hp hx).2.1)
  · exact (sq_dvd hp hx _).1 ((e _).1 (per_spec hq hy).2.1)

theorem chosen_apart {p q : List Int} {K : Nat} {js : List Nat} (h : Chosen p q K js) {k k' : Nat} (hk : k < K) (hk' : k' < K) (e : js.getD k 0 = js.getD k' 0) : k = k' := by
  have key : ∀ k k', k < k' → k' < K → js.getD k 0 ≠ js.getD k' 0 := fun k k' hkk hk' e => by
    have h1 := (h.2 k' hk').2.2.1
    refine h1 (mem_usd.2 ⟨js.getD k 0, ?_, ?_⟩)
    · rw [List.mem_take_iff_getElem]
      have hl := h.1
      exact ⟨k, by omega, by simp [show k < js.length by omega]⟩
    · rw [e]; exact cyL_self _ _
  rcases Nat.lt_trichotomy k k' with l | l | l
  · exact absurd e (key _ _ l hk')
  · exact l
  · exact absurd e.symm (key _ _ l hk)

theorem cf_conj {p q : List Int} (hp : validL p = true) (hq : validL q = true) (hl : p.length = q.length) {js : List Nat} (h : Chosen p q (cyc p).length js) : Conj p q (cf p q js (cyc p).length) := by
  have hv := cf_val hp hq js (cyc p).length (Nat.le_refl _) (fun k hk => ⟨(h.2 k hk).1, (h.2 k hk).2.1⟩)
  have hlen := length_cf p q js (cyc p).length
  generalize cf p q js (cyc p).length = c at *
  have hvp := (validL_iff p).1 hp
  refine ⟨validL_of_inj (by omega) (by omega) ?_ ?_, hlen, ?_⟩
  · intro z hz
    obtain ⟨k, hk, _, i, rfl⟩ := pt_cycle hp ((pt_len hlen z).1 hz)
    rw [hv k hk i]
    exact (pt_len (by omega) _).1 (sq_pt hq (st_pt (h.2 k hk).1) i)
  · intro z z' hz hz' e
    obtain ⟨k, hk, _, i, rfl⟩ := pt_cycle hp ((pt_len hlen z).1 hz)
    obtain ⟨k', hk', _, i', rfl⟩ := pt_cycle hp ((pt_len hlen z').1 hz')
    rw [hv k hk i, hv k' hk' i'] at e
    obtain ⟨j1, j2, _⟩ := h.2 k hk
    obtain ⟨j1', j2', _⟩ := h.2 k' hk'
    have m1 := (cyL_mem hq (st_pt j1)).2 ⟨i, rfl⟩
    have m2 := (cyL_mem hq (st_pt j1')).2 ⟨i', e⟩
    have hkk : k = k' := chosen_apart h hk hk' (st_apart hq j1 j1' m1 m2)
    subst hkk
    rw [sq_eq hq (st_pt j1), j2] at e
    exact (sq_eq hp (st_pt hk)).2 e
  · intro z hz
    obtain ⟨k, hk, _, i, rfl⟩ := pt_cycle hp hz
    show im c (sq p (st p k) (i + 1)) = _
    rw [hv k hk, hv k hk]
    rfl
end Go.Proofs.YtcnkegcogepimaaDoor
