/- Plain mathematics for GroupLarge: the center is the classes of one element; the second group of the series. -/
import Derived.Test.YtnnkccfbfjjojaaLAG
import Derived.Test.YtnnkccfbfjjojaaGlaw6
namespace Go.Proofs.Ytnnkccfbfjjojaa
open Go Go.RowKit Go.Deep

/-- the first elements of the lists of one element -/
def ones (Ks : List (List (List Int))) : List (List Int) := (Ks.filter fun C => decide (C.length = 1)).map fun C => C.getD 0 []
theorem ones_snoc (Ks : List (List (List Int))) (C : List (List Int)) : ones (Ks ++ [C]) = ones Ks ++ (if C.length = 1 then [C.getD 0 []] else []) := by
  unfold ones
  rw [List.filter_append, List.map_append]
  by_cases h : C.length = 1 <;> simp [h]
theorem ones_take {Ks : List (List (List Int))} {k : Nat} (hk : k < Ks.length) : ones (Ks.take (k + 1)) = ones (Ks.take k) ++ (if (Ks.getD k []).length = 1 then [(Ks.getD k []).getD 0 []] else []) := by
  rw [List.take_succ_eq_append_getElem hk, ones_snoc]
  simp [hk]
theorem clsTo_at {S : List (List Int)} : ∀ k, k ≤ S.length → ∀ C ∈ clsTo S k, ∃ j, j < k ∧ C = clsOf S (S.getD j [])
  | 0, _ => fun C h => by cases h
  | k + 1, hk => fun C h => by
    unfold clsTo at h
    split at h
    · obtain ⟨j, h1, h2⟩ := clsTo_at k (by omega) C h
      exact ⟨j, by omega, h2⟩
    · rcases List.mem_append.1 h with h | h
      · obtain ⟨j, h1, h2⟩ := clsTo_at k (by omega) C h
        exact ⟨j, by omega, h2⟩
      · exact ⟨k, by omega, List.mem_singleton.1 h⟩
theorem ones_cls {S : List (List Int)} (hS : Cl S) (hn : S.Nodup) : ∀ k, k ≤ S.length → ones (clsTo S k) = (S.take k).filter fun e => decide (∀ y ∈ S, mulL e y = mulL y e)
  | 0, _ => by simp [clsTo, ones]
  | k + 1, hk => by
    have ih := ones_cls hS hn k (by omega)
    have he : S.getD k [] ∈ S := getD_mem (by omega)
    have e1 : S.take (k + 1) = S.take k ++ [S.getD k []] := by
      rw [List.take_succ_eq_append_getElem (by omega)]
      simp [show k < S.length by omega]
    rw [e1, List.filter_append, ← ih]
    have h1 := cls_one hS he hn
    have hs := self_cls hS he
    show ones (if S.getD k [] ∈ (clsTo S k).flatten then clsTo S k else clsTo S k ++ [clsOf S (S.getD k [])]) = _
    split
    · rename_i hf
      have hc : ¬ ∀ y ∈ S, mulL (S.getD k []) y = mulL y (S.getD k []) := fun hc => by
        obtain ⟨x, hx⟩ := List.length_eq_one_iff.1 (h1.2 hc)
        obtain ⟨C, hC, hm⟩ := List.mem_flatten.1 hf
        obtain ⟨j, hj, rfl⟩ := clsTo_at k (by omega) C hC
        have hj' : S.getD j [] ∈ S := getD_mem (by omega)
        have h2 := self_cls hS hj'
        rw [← cls_of hS hj' hm, hx] at h2
        rw [hx] at hs
        have e : S.getD j [] = S.getD k [] := (List.mem_singleton.1 h2).trans (List.mem_singleton.1 hs).symm
        have := (List.getElem_inj (h₀ := (by omega : j < S.length)) (h₁ := (by omega : k < S.length)) hn).1 (by simpa [show j < S.length by omega, show k < S.length by omega] using e)
        omega
      rw [List.filter_cons_of_neg (by simpa using hc)]
      simp
    · rw [ones_snoc]
      by_cases hc : (clsOf S (S.getD k [])).length = 1
      · rw [if_pos hc]
        obtain ⟨x, hx⟩ := List.length_eq_one_iff.1 hc
        rw [hx] at hs ⊢
        rw [List.filter_cons_of_pos (by simpa using h1.1 hc)]
        rw [← List.mem_singleton.1 hs]
        rfl
      · rw [if_neg hc, List.filter_cons_of_neg (by simpa using fun h => hc (h1.2 h))]
        simp
theorem ones_map (f : List Int → List Int) (h0 : f [] = []) : ∀ Ks : List (List (List Int)), ones (Ks.map fun C => C.map f) = (ones Ks).map f
  | [] => rfl
  | C :: Ks => by
    have ih := ones_map f h0 Ks
    unfold ones at ih ⊢
    rw [List.map_cons]
    by_cases h : C.length = 1
    · rw [List.filter_cons_of_pos (by simpa using h), List.filter_cons_of_pos (by simpa using h), List.map_cons, List.map_cons, List.map_cons, ih]
      congr 1
      obtain ⟨x, rfl⟩ := List.length_eq_one_iff.1 h
      rfl
    · rw [List.filter_cons_of_neg (by simpa using h), List.filter_cons_of_neg (by simpa using h), ih]
theorem pks_cl {ps : List (List Int)} (hg : IsGrp ps) : Cl (pks ps) := hg.cl
theorem ones_cen {ps : List (List Int)} (hp : IsGrp ps) : ones (clsR ps ps.length) = cenL ps := by
  unfold clsR
  rw [ones_map _ (by simp), show ps.length = (pks ps).length from (pks_len ps).symm, ones_cls (pks_cl hp) (pks_nd hp) _ (Nat.le_refl _), List.take_length]
  have hcom : ∀ {p r : List Int}, p ∈ ps → r ∈ ps → (mulL p r = mulL r p ↔ mulL (pk7 p) (pk7 r) = mulL (pk7 r) (pk7 p)) := fun {p r} h1 h2 => by
    obtain ⟨v1, l1⟩ := hp.1.mem h1
    obtain ⟨v2, l2⟩ := hp.1.mem h2
    rw [← pk7_mul v1 v2 (l1.trans l2.symm), ← pk7_mul v2 v1 (l2.trans l1.symm)]
    exact ⟨fun h => by rw [h], fun h => pk7_same (by rw [length_mulL, length_mulL]; exact l1.trans l2.symm) h⟩
  have e1 : (pks ps).filter (fun e => decide (∀ y ∈ pks ps, mulL e y = mulL y e)) = pks (cenL ps) := by
    unfold cenL
    show (ps.map pk7).filter _ = (ps.filter _).map pk7
    rw [List.filter_map]
    congr 1
    refine List.filter_congr fun p hp' => ?_
    show decide _ = decide _
    rw [decide_eq_decide]
    constructor
    · intro h r hr
      exact (hcom hp' hr).2 (h _ (List.mem_map.2 ⟨r, hr, rfl⟩))
    · intro h y hy
      obtain ⟨r, hr, rfl⟩ := List.mem_map.1 hy
      exact (hcom hp' hr).1 (h r hr)
  rw [e1]
  exact pks_take fun p hp' => grp_len hp p (List.mem_filter.1 hp').1

/-- the derived group is the second of the series, or the group itself -/
theorem ser_second {ps d : List (List Int)} {qs : List (List (List Int))} (hp : IsGrp ps) (hr : SerR ps qs) (hd : IsGrp d) (h0 : (d.getD 0 []).length = (ps.getD 0 []).length) (hi : IsDer (pks ps) (pks d)) : d = qs.getD (min 1 (qs.length - 1)) [] := by
  obtain ⟨qs', z, e, k1, k2, k3, k4, d', k5, k6⟩ := hr
  rcases qs with _ | ⟨q, _ | ⟨q2, qr⟩⟩
  · cases k2
  · have e1 : q = ps := by simpa using k2
    have e2 : z = q := by
      have := congrArg List.getLast? e
      simpa using this.symm
    subst e1 e2
    refine grp_ext hd hp h0 fun a => (hi a).trans ?_
    exact ((der_grp hp rfl k5).2.2.2.2 k6 a).symm
  · have e1 : q = ps := by simpa using k2
    subst e1
    obtain ⟨g1, g2, g3, _⟩ := der_grp hp rfl k1.1
    refine (grp_ext hd g1 (h0.trans g2.symm) fun a => (hi a).trans (g3 a).symm).trans ?_
    show q2 = (q :: q2 :: qr).getD (min 1 ((q :: q2 :: qr).length - 1)) []
    rw [show min 1 ((q :: q2 :: qr).length - 1) = 1 by simp]
    rfl
end Go.Proofs.Ytnnkccfbfjjojaa
