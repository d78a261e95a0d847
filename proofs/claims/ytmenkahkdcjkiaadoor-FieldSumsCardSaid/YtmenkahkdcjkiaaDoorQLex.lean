/- A region that draws its order, with many operations: the check that the text's own order is one of them, over lists. -/
import Derived.Deep.QuietTactic
import Derived.Lib.QuietBelow
import Derived.Still
namespace Go.Proofs.YtmenkahkdcjkiaaDoor
open Go Go.RowKit Go.Sort

/-- each operation waits for earlier ones alone, and no later one that does not wait for it meets it -/
def lexL (md : Region.Mode) (ops : Array Go.Oper) : Nat → List Go.Oper → Bool
  | _, [] => true
  | k, (o : Oper) :: rest => o.after.all (fun e => !Region.binds md e || decide (e.on < k)) && (rest.all (fun (oj : Oper) => oj.after.any (fun e => Region.binds md e && e.on == k) || o.apart ops oj) && lexL md ops (k + 1) rest)
theorem lexL_at {md : Region.Mode} {ops : Array Oper} : ∀ (l : List Oper) (k : Nat), lexL md ops k l = true → ∀ (i : Nat) (o : Go.Oper), l[i]? = some o →
    (o.after.all (fun e => !Region.binds md e || decide (e.on < k + i)) = true) ∧ ∀ (j : Nat) (oj : Go.Oper), i < j → l[j]? = some oj → (oj.after.any (fun e => Region.binds md e && e.on == k + i) || o.apart ops oj) = true
  | [], _, _, i, o, h => by simp at h
  | o :: rest, k, hB, i, o', h => by
    simp only [lexL, Bool.and_eq_true] at hB
    obtain ⟨h1, h2, h3⟩ := hB
    cases i with
    | zero =>
      simp at h; subst h
      refine ⟨h1, fun j oj hj hoj => ?_⟩
      obtain ⟨j', rfl⟩ : ∃ j', j = j' + 1 := ⟨j - 1, by omega⟩
      simp at hoj
      exact List.all_eq_true.1 h2 oj (List.mem_of_getElem? hoj)
    | succ i =>
      simp at h
      obtain ⟨g1, g2⟩ := lexL_at rest (k + 1) h3 i o' h
      rw [show k + (i + 1) = k + 1 + i from by omega]
      refine ⟨g1, fun j oj hj hoj => ?_⟩
      obtain ⟨j', rfl⟩ : ∃ j', j = j' + 1 := ⟨j - 1, by omega⟩
      simp at hoj
      exact g2 j' oj (by omega) hoj

theorem lexFrom_of {md : Region.Mode} {ops : Array Oper} (hB : lexL md ops 0 ops.toList = true) : ∀ (f k : Nat) (listed : Array Bool), k + f = ops.size → listed.size = ops.size → (∀ j, j < ops.size → listed[j]? = some (decide (j < k))) → Region.lexFrom md ops f k listed = true
  | 0, k, listed, hk, hs, hl => by
    unfold Region.lexFrom
    rw [List.isEmpty_iff]
    unfold Region.ready
    rw [List.filter_eq_nil_iff]
    intro j hj
    rw [List.mem_range] at hj
    have : listed.getD j true = true := by rw [Array.getD_eq_getD_getElem?, hl j hj]; simp; omega
    rw [this]; simp
  | f + 1, k, listed, hk, hs, hl => by
    have hkl : k < ops.size := by omega
    have ho : ops.toList[k]? = some ops[k] := by simp [hkl]
    obtain ⟨g1, g2⟩ := lexL_at ops.toList 0 hB k ops[k] ho
    rw [Nat.zero_add] at g1 g2
    unfold Region.lexFrom
    rw [Bool.and_eq_true, Bool.and_eq_true]
    refine ⟨⟨?_, ?_⟩, lexFrom_of hB f (k + 1) _ (by omega) (by simp [hs]) fun j hj => ?_⟩
    · rw [List.contains_iff_mem]
      unfold Region.ready
      rw [List.mem_filter, List.mem_range]
      refine ⟨hkl, ?_⟩
      have e1 : listed.getD k true = false := by rw [Array.getD_eq_getD_getElem?, hl k hkl]; simp
      rw [e1]
      simp only [Bool.not_false, Bool.true_and, Array.getElem?_eq_getElem hkl, Option.map_some, Option.getD_some]
      rw [Array.all_eq_true_iff_forall_mem] at g1 ⊢
      intro e he
      have := g1 e he
      rw [Bool.or_eq_true] at this ⊢
      rcases this with h | h
      · exact .inl h
      · right
        have hlt := of_decide_eq_true h
        rw [Array.getD_eq_getD_getElem?, hl e.on (by omega)]
        simp; omega
    · unfold Region.free
      rw [Array.getElem?_eq_getElem hkl]
      simp only
      rw [List.all_eq_true]
      intro j hj
      rw [List.mem_range] at hj
      by_cases hjk : j ≤ k
      · by_cases e : j = k
        · subst e; simp
        · have : listed.getD j true = true := by rw [Array.getD_eq_getD_getElem?, hl j hj]; simp; omega
          rw [this]; simp
      · have := g2 j ops[j] (by omega) (by simp [hj])
        rw [Array.getElem?_eq_getElem hj]
        rw [Bool.or_eq_true]
        exact .inr this
    · rw [Array.getElem?_setIfInBounds]
      by_cases e : k = j
      · subst e; simp [hs, hkl]
      · rw [if_neg e, hl j hj]
        congr 1
        rw [decide_eq_decide]; omega
theorem lexB_of {md : Region.Mode} {ops : Array Oper} (hs : Region.noSelect ops = true) (hB : lexL md ops 0 ops.toList = true) : Region.lexB md ops = true := by
  unfold Region.lexB
  rw [Bool.and_eq_true]
  exact ⟨hs, lexFrom_of hB _ _ _ (by omega) (by simp) fun j hj => by simp [hj]⟩
end Go.Proofs.YtmenkahkdcjkiaaDoor
