/- Plain mathematics: no conjugating permutation is before the chosen one; if there is one, the choice never fails. -/
import Derived.Test.YtcnkegcogepimaaDoorConjM
import Derived.Test.YtcnkegcogepimaaDoorRankL
import Derived.Test.YtcnkegcogepimaaDoorParL
namespace Go.Proofs.YtcnkegcogepimaaDoor
open Go.RowKit

theorem less_first (d : List Int) : ∀ c : List Int, d.length = c.length → lessL d c = true → ∃ x, x < d.length ∧ (∀ y, y < x → d.getD y 0 = c.getD y 0) ∧ d.getD x 0 < c.getD x 0 := by
  induction d with
  | nil => intro c hl h; cases c with
    | nil => simp [lessL] at h
    | cons b c => simp at hl
  | cons a d ih =>
    intro c hl h
    cases c with
    | nil => simp at hl
    | cons b c =>
      by_cases e : a = b
      · rw [lessL, if_pos e] at h
        obtain ⟨x, hx, h1, h2⟩ := ih c (by simpa using hl) h
        refine ⟨x + 1, by simp; omega, fun y hy => ?_, by simpa using h2⟩
        cases y with
        | zero => simpa using e
        | succ y => simpa using h1 y (by omega)
      · rw [lessL, if_neg e] at h
        exact ⟨0, by simp, fun y hy => by omega, by simpa using h⟩

theorem cf_first {p q d : List Int} (hp : validL p = true) (hq : validL q = true) (hl : p.length = q.length) {js : List Nat} (h : Chosen p q (cyc p).length js) (hd : Conj p q d) : lessL d (cf p q js (cyc p).length) = false := by
  have hv := cf_val hp hq js (cyc p).length (Nat.le_refl _) (fun k hk => ⟨(h.2 k hk).1, (h.2 k hk).2.1⟩)
  have hlen := length_cf p q js (cyc p).length
  generalize cf p q js (cyc p).length = c at *
  rcases hb : lessL d c with _ | _
  · rfl
  · exfalso
    obtain ⟨x, hx, heq, hlt⟩ := less_first d c (by rw [hd.2.1, hlen]) hb
    have hxp : pt p (x : Int) := ⟨by omega, by have := hd.2.1; omega⟩
    have hlt : im d (x : Int) < im c (x : Int) := hlt
    have heq : ∀ y : Nat, y < x → im d (y : Int) = im c (y : Int) := heq
    obtain ⟨k, hk, hle, i, hi⟩ := pt_cycle hp hxp
    have hs : im c ((st p k : Nat) : Int) = ((st q (js.getD k 0) : Nat) : Int) := hv k hk 0
    by_cases e : st p k < x
    · have e1 := heq _ e
      rw [hi, hv k hk, conj_sq hp hd (st_pt hk), e1, hs] at hlt
      omega
    · have hxk : x = st p k := by omega
      rw [hxk, hs] at hlt
      have hpx := st_pt hk
      -- the cycle of d's value
      obtain ⟨j, hj, hjl, i', hi'⟩ := pt_cycle hq (conj_pt hl hd hpx)
      have hper : per q (st q j) = per p (st p k) := by
        rw [← conj_per hp hq hl hd hpx]
        exact (per_mem hq (st_pt hj) ((cyL_mem hq (st_pt hj)).2 ⟨i', hi'⟩)).symm
      obtain ⟨c1, c2, c3, c4⟩ := h.2 k hk
      by_cases hjj : j < js.getD k 0
      · obtain ⟨j2, hj2, hm⟩ := mem_usd.1 (c4 j hjj hper)
        obtain ⟨k2, hk2, e2⟩ := List.mem_take_iff_getElem.1 hj2
        have hlj := h.1
        have hkk : k2 < k := by omega
        have e3 : js.getD k2 0 = j2 := by simp [show k2 < js.length by omega, e2]
        obtain ⟨c1', c2', _⟩ := h.2 k2 (by omega)
        rw [e3] at c1' c2'
        have hst := st_lt hkk hk
        have hsame : im d ((st p k2 : Nat) : Int) = ((st q j2 : Nat) : Int) := by
          rw [heq _ (by omega)]
          have := hv k2 (by omega) 0
          rw [e3] at this
          exact this
        obtain ⟨i2, hi2⟩ := (cyL_mem hq (st_pt c1')).1 (cyL_trans hq (st_pt c1') hm ((cyL_mem hq (st_pt hj)).2 ⟨i', hi'⟩))
        rw [← hsame, ← conj_sq hp hd (st_pt (by omega))] at hi2
        have := im_inj hd.1 ((pt_len hd.2.1 _).2 hpx) ((pt_len hd.2.1 _).2 (sq_pt hp (st_pt (p := p) (k := k2) (by omega)) i2)) hi2
        have := st_apart hp (i := k) (k := k2) hk (by omega) (cyL_self p _) ((cyL_mem hp (st_pt (by omega))).2 ⟨i2, this⟩)
        omega
      · have : st q (js.getD k 0) ≤ st q j := by
          rcases Nat.lt_or_ge (js.getD k 0) j with l | l
          · exact Nat.le_of_lt (st_lt l hj)
          · rw [show j = js.getD k 0 by omega]; exact Nat.le_refl _
        omega

theorem nodup_sub (l : List Int) : ∀ m : List Int, l.Nodup → (∀ x, x ∈ l → x ∈ m) → l.length ≤ m.length := by
  induction l with
  | nil => intros; simp
  | cons x l ih =>
    intro m hn hs
    obtain ⟨n1, n2⟩ := List.nodup_cons.1 hn
    have hx := hs x (by simp)
    have := ih (m.erase x) n2 (fun y hy => (List.mem_erase_of_ne (fun e => n1 (by rw [← e]; exact hy))).2 (hs y (by simp [hy])))
    rw [List.length_erase_of_mem hx] at this
    have := List.length_pos_of_mem hx
    simp
    omega

/-- how many points have period m -/
def cntP (p : List Int) (m : Nat) : Nat := ((idL p.length).filter fun x => per p x == m).length
theorem map_im {d : List Int} : (idL d.length).map (im d) = d := one_mulL d
theorem mem_idL {n : Nat} {x : Int} : x ∈ idL n ↔ 0 ≤ x ∧ x < (n : Int) := by
  unfold idL
  rw [List.mem_map]
  constructor
  · rintro ⟨y, hy, rfl⟩
    have := List.mem_range.1 hy
    omega
  · intro h
    exact ⟨x.toNat, List.mem_range.2 (by omega), by omega⟩
theorem conj_cnt {p q d : List Int} (hp : validL p = true) (hq : validL q = true) (hl : p.length = q.length) (hd : Conj p q d) (m : Nat) : cntP p m = cntP q m := by
  unfold cntP
  have h1 : ((idL q.length).filter fun x => per q x == m).length = (d.filter fun x => per q x == m).length := by
    have := valid_perm hd.1
    rw [hd.2.1, hl] at this
    exact ((this.filter _).length_eq).symm
  rw [h1]
  have h2 : d.filter (fun x => per q x == m) = ((idL p.length).filter (fun x => per p x == m)).map (im d) := by
    have e : d = (idL p.length).map (im d) := by rw [← hd.2.1]; exact map_im.symm
    have e2 : (idL p.length).filter (fun x => per p x == m) = (idL p.length).filter ((fun x => per q x == m) ∘ im d) := by
      refine List.filter_congr (fun x hx => ?_)
      have := mem_idL.1 hx
      simp only [Function.comp]
      rw [conj_per hp hq hl hd this]
    rw [e2]
    conv => lhs; rw [e]
    exact List.filter_map
  rw [h2, List.length_map]

theorem idL_nodup (n : Nat) : (idL n).Nodup := by
  refine (idL_sorted n).imp (fun {a b} h => ?_)
  omega

theorem chs_ok {p q : List Int} (hp : validL p = true) (hq : validL q = true) (hc : ∀ m, cntP p m = cntP q m) (K : Nat) : K ≤ (cyc p).length → ∃ js, chs p q K = some js := by
  induction K with
  | zero => intro _; exact ⟨[], rfl⟩
  | succ K ih =>
    intro hK
    obtain ⟨js, hjs⟩ := ih (by omega)
    have hch := chs_chosen K (by omega) js hjs
    rcases hpk : pk q ((cyc p).getD K []).length (usd q js) with _ | j
    · exfalso
      rw [cyc_length (by omega)] at hpk
      have hall := pk_none hpk
      have hv := cf_val hp hq js K (by omega) (fun k hk => ⟨(hch.2 k hk).1, (hch.2 k hk).2.1⟩)
      have hx := st_pt (p := p) (k := K) (by omega)
      obtain ⟨m, hm⟩ : ∃ m, m = per p (st p K) := ⟨_, rfl⟩
      rw [← hm] at hall
      have hseen : ∀ z, z ∈ (cyTo p (st p K)).2 ↔ ∃ i, i < K ∧ z ∈ cyL p (st p i) := fun z => st_seen (by omega) z
      have hT : ∀ y, y ∈ (idL q.length).filter (fun x => per q x == m) → y ∈ (((idL p.length).filter (fun x => per p x == m)).erase ((st p K : Nat) : Int)).map (im (cf p q js K)) := fun y hy => by
        obtain ⟨y1, y2⟩ := List.mem_filter.1 hy
        have y2 : per q y = m := by simpa using y2
        obtain ⟨j, hj, _, i, hi⟩ := pt_cycle hq (mem_idL.1 y1)
        have hyc := (cyL_mem hq (st_pt hj)).2 ⟨i, hi⟩
        obtain ⟨j2, hj2, hm2⟩ := mem_usd.1 (hall j hj (by rw [← y2]; exact (per_mem hq (st_pt hj) hyc).symm))
        obtain ⟨k2, hk2, e2⟩ := List.getElem_of_mem hj2
        have hlj := hch.1
        have e3 : js.getD k2 0 = j2 := by simp [hk2, e2]
        obtain ⟨c1, c2, _⟩ := hch.2 k2 (by omega)
        rw [e3] at c1 c2
        have hyc2 := cyL_trans hq (st_pt c1) hm2 hyc
        obtain ⟨i2, hi2⟩ := (cyL_mem hq (st_pt c1)).1 hyc2
        have hxk := st_pt (p := p) (k := k2) (by omega)
        refine List.mem_map.2 ⟨sq p (st p k2) i2, ?_, ?_⟩
        · have hin := (cyL_mem hp hxk).2 ⟨i2, rfl⟩
          have hper : per p (sq p (st p k2) i2) = m := by
            rw [per_mem hp hxk hin, ← c2, ← y2]
            exact (per_mem hq (st_pt c1) hyc2).symm
          refine (List.mem_erase_of_ne (fun e => ?_)).2 (List.mem_filter.2 ⟨mem_idL.2 (sq_pt hp hxk i2), by simp [hper]⟩)
          rw [e] at hin
          have := st_apart hp (i := K) (k := k2) (by omega) (by omega) (cyL_self p _) hin
          omega
        · rw [hv k2 (by omega), e3, ← hi2]
      have h1 := nodup_sub _ _ ((idL_nodup _).filter _) hT
      have hmem : ((st p K : Nat) : Int) ∈ (idL p.length).filter (fun x => per p x == m) := List.mem_filter.2 ⟨mem_idL.2 hx, by simp [hm]⟩
      rw [List.length_map, List.length_erase_of_mem hmem] at h1
      have := List.length_pos_of_mem hmem
      have := hc m
      unfold cntP at this
      omega
    · exact ⟨js ++ [j], by rw [chs, hjs, Option.bind_some, hpk]; rfl⟩
end Go.Proofs.YtcnkegcogepimaaDoor
