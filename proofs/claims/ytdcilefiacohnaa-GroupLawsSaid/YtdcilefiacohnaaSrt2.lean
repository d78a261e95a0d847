/- slices.SortFunc on a row of elements of the call's own. -/
import Derived.Test.YtdcilefiacohnaaSrt
import Derived.Test.YtdcilefiacohnaaExt
import Derived.Sort.Grow
import Derived.Laws.OwnMore
namespace Go.Proofs.Ytdcilefiacohnaa
open Go Go.Shelf Go.RowKit Go.Lib Go.Sort Go.Proofs

/-- the lists of some elements -/
def vals (d : List GE) : List (List Int) := d.map (·.1)
theorem vals_len (d : List GE) : (vals d).length = d.length := by simp [vals]
theorem vals_seven (d : List GE) : ∀ x ∈ vals d, x.length = 7 := fun x hx => by
  obtain ⟨y, _, rfl⟩ := List.mem_map.1 hx; exact y.2.2
theorem rows_len : ∀ L : List (List Int), (∀ x ∈ L, x.length = 7) → (rowsV L).length = L.length * 7
  | [], _ => rfl
  | x :: L, h => by
    have h1 := rows_len L (fun y hy => h y (by simp [hy]))
    have h2 := h x (by simp)
    have e : rowsV (x :: L) = x.map (Value.int .u8) ++ rowsV L := rfl
    rw [e, List.length_append, List.length_map, h1, h2, List.length_cons]; omega
theorem flatK_rows (d : List GE) : (flatK encE 7 d.toArray).toList = rowsV (vals d) := by
  apply List.ext_getElem?
  intro j
  by_cases hj : j < d.length * 7
  · have h1 := get_flatK encE 7 d.toArray j (by simpa using hj)
    have hs : j < (flatK encE 7 d.toArray).size := by simpa using hj
    rw [getElem!_pos _ j hs] at h1
    have hk : j / 7 < d.length := by omega
    have hr : j % 7 < 7 := by omega
    have h2 := rowsV_get (vals d) (j / 7) (j % 7) (vals_seven d) (by rw [vals_len]; exact hk) hr
    rw [show j / 7 * 7 + j % 7 = j by omega] at h2
    rw [h2, Array.getElem?_toList, Array.getElem?_eq_getElem hs, h1]
    have h3 : (vals d).getD (j / 7) [] = (d[j / 7]'hk).1 := by simp [vals, hk]
    have h4 : (d.toArray[j / 7]!) = d[j / 7]'hk := by simp [hk]
    rw [h3, h4]
    have h5 : j % 7 < (encE (d[j / 7]'hk)).length := by rw [encE, List.length_map, (d[j / 7]'hk).2.2]; exact hr
    rw [getElem!_pos (encE (d[j / 7]'hk)) (j % 7) h5]
    exact (List.getElem?_eq_getElem h5).symm
  · rw [List.getElem?_eq_none (by simp; omega), List.getElem?_eq_none (by rw [rows_len _ (vals_seven d), vals_len]; omega)]
theorem heap_sortK {w : World} {g m : Nat} {os : Array Obj} {cur : Array Value} {e : TypeId} {fr : Nat × Nat} (d : Array GE) (hb : w.heap[g]? = some (.cells cur e fr)) :
    (sortWorldK encE 7 w g 0 m d os).heap[g]? = some (.cells (putCells id 0 (flatK encE 7 d) cur) e fr) := by
  have hg : g < w.heap.size := (Array.getElem?_eq_some_iff.1 hb).1
  unfold sortWorldK putRowK
  rw [heap_grow_old _ _ (by simpa [putRow, mapBlock, Sort.ahead] using hg)]
  simp [putRow, mapBlock, Sort.ahead, Array.getElem?_modify, hb, onCells]
theorem grownBy_sortK {w : World} {g m : Nat} {os : Array Obj} (d : Array GE) : w.grownBy (sortWorldK encE 7 w g 0 m d os) (some g) := by
  refine ⟨rfl, rfl, rfl, by simp [sortWorldK, putRowK, putRow, mapBlock, Sort.ahead], fun k hk hne => ?_⟩
  unfold sortWorldK putRowK
  rw [heap_grow_old _ _ (by simpa [putRow, mapBlock, Sort.ahead] using hk)]
  have : g ≠ k := fun e => hne (by rw [e])
  simp [putRow, mapBlock, Sort.ahead, Array.getElem?_modify, this]
theorem take_put (cur F : Array Value) (h : F.size ≤ cur.size) : (putCells id 0 F cur).toList.take F.size = F.toList := by
  apply List.ext_getElem?
  intro j
  by_cases hj : j < F.size
  · rw [List.getElem?_take_of_lt hj, Array.getElem?_toList]
    simp [putCells, hj, show j < cur.size by omega]
  · rw [List.getElem?_take_eq_none (by omega), List.getElem?_eq_none (by simp; omega)]
theorem Oel.sorted {B g cap n m : Nat} {w : World} {os : Array Obj} {d d' : List GE} (h : Oel B w (.slice (some ⟨g, 0, none⟩) n cap) (vals d)) (hl : d'.length = d.length) :
    Oel B (sortWorldK encE 7 w g 0 m d'.toArray os) (.slice (some ⟨g, 0, none⟩) n cap) (vals d') := by
  unfold Oel at h ⊢
  rw [vals_len] at h ⊢
  rcases h.2 with ⟨h0, _⟩ | ⟨g', cap', cur, hv, hb, hg, h1, h2, h3, h4⟩
  · cases h0
  · cases hv
    rw [hl]
    refine ⟨by rw [rows_len _ (vals_seven d'), vals_len, hl], .inr ⟨g, cap, _, rfl, hb, heap_sortK _ hg, h1, h2, by simp [putCells, h3], ?_⟩⟩
    have hs : (flatK encE 7 d'.toArray).size = d.length * 7 := by rw [size_flatK]; simp [hl]
    have := take_put cur (flatK encE 7 d'.toArray) (by rw [hs, h3]; exact Nat.mul_le_mul_right 7 h1)
    rw [hs, flatK_rows] at this
    exact this
theorem Oel.holds {B g cap n : Nat} {w : World} {d : List GE} (h : Oel B w (.slice (some ⟨g, 0, none⟩) n cap) (vals d)) : HoldsK encE 7 w g 0 d.toArray := by
  have hn : n = d.length := by
    rcases h.2 with ⟨e, _⟩ | ⟨g, cap, cur, e, _⟩
    · cases e
    · cases e; exact vals_len d
  subst hn
  unfold Oel at h
  rw [vals_len] at h
  intro j hj
  rw [size_flatK] at hj
  have hj' : j < d.length * 7 := by simpa using hj
  rw [Nat.zero_add]
  refine ⟨?_, World.ownsRow.frozenAt h j⟩
  rw [World.ownsRow.cellAt h j hj', ← flatK_rows, Array.getElem?_toList, Array.getElem?_eq_getElem (by simpa using hj)]
  rw [getElem!_pos _ j (by simpa using hj)]
  rfl

/-- no later one comes before an earlier one -/
def Asc (L : List (List Int)) : Prop := L.Pairwise fun a b => ¬ cmpLex b a < 0
theorem lift_els {L : List (List Int)} (h : ∀ x ∈ L, El x) : ∃ d : List GE, vals d = L := by
  induction L with
  | nil => exact ⟨[], rfl⟩
  | cons x L ih =>
    obtain ⟨d, hd⟩ := ih (fun y hy => h y (by simp [hy]))
    exact ⟨⟨x, h x (by simp)⟩ :: d, congrArg (x :: ·) hd⟩
theorem sort_el {B : Nat} {v : Value} {L : List (List Int)} {w : World} (h : Oel B w v L) (hE : ∀ x ∈ L, El x) (h0 : 0 < L.length) (hn : L.length ≤ 900000) :
    Calls Try.prog 96 #[v, .func (.func 86) #[] #[]] w fun e w' => e = .returned (.tuple #[]) ∧ ∃ L', L'.Perm L ∧ Asc L' ∧ Oel B w' v L' ∧ w.grownBy w' v.ownBlock := by
  obtain ⟨g, cap, rfl⟩ := h.form h0
  obtain ⟨d, rfl⟩ := lift_els hE
  have hH := h.holds
  have hg : g < w.heap.size := (World.ownsRow.lt h g rfl).2
  rw [vals_len] at hn
  have := sortFunc_el g 0 cap d.toArray w hH hg (by simp; omega)
  rw [show (d.toArray).size = (vals d).length by simp [vals]] at this
  refine this.mono ?_
  rintro e w' ⟨rfl, d', m, os, hp, hs, rfl⟩
  obtain ⟨hsz, _, hpm⟩ := hp
  rw [vals_len] at hpm hs
  have hsz' : d'.size = d.length := by simpa using hsz
  have hpm' : d'.toList.Perm d := by
    have e1 : d'.extract 0 d.length = d' := by rw [← hsz']; simp
    have e2 : d.toArray.extract 0 d.length = d.toArray := by simp
    rw [e1, e2] at hpm
    simpa using hpm
  refine ⟨rfl, vals d'.toList, hpm'.map _, ?_, ?_, grownBy_sortK _⟩
  · unfold Asc
    rw [List.pairwise_iff_getElem]
    intro i j hi hj hij
    rw [vals_len] at hi hj
    have hi' : i < d'.size := by simpa using hi
    have hj' : j < d'.size := by simpa using hj
    have := hs i j (Nat.zero_le _) hij (by omega)
    rw [getElem!_pos _ i hi', getElem!_pos _ j hj', ltE] at this
    have := of_decide_eq_false this
    simpa [vals] using this
  · have := h.sorted (m := m) (os := os) (d' := d'.toList) (by simpa using hsz')
    simpa using this
end Go.Proofs.Ytdcilefiacohnaa
