/- slices.Reverse at pairs. -/
import Derived.Test.YtjnjhfificpbbaaComP
namespace Go.Proofs.Ytjnjhfificpbbaa
open Go Go.RowKit

/-- cells written over, from k on -/
def layV (cs : Array Value) (k : Nat) : List Value → Array Value
  | [] => cs
  | v :: r => layV (cs.setIfInBounds k v) (k + 1) r
theorem size_layV : ∀ (vs : List Value) (cs : Array Value) (k : Nat), (layV cs k vs).size = cs.size
  | [], _, _ => rfl
  | v :: r, cs, k => by rw [layV, size_layV r]; simp
theorem layV_get : ∀ (vs : List Value) (cs : Array Value) (k q : Nat), k + vs.length ≤ cs.size → (layV cs k vs)[q]? = if k ≤ q ∧ q < k + vs.length then vs[q - k]? else cs[q]?
  | [], cs, k, q, _ => by
    rw [layV, if_neg (by simp only [List.length_nil]; omega)]
  | v :: r, cs, k, q, h => by
    simp only [List.length_cons] at h ⊢
    rw [layV, layV_get r _ _ q (by simp; omega)]
    by_cases h1 : k + 1 ≤ q ∧ q < k + 1 + r.length
    · rw [if_pos h1, if_pos (by omega), show q - k = (q - (k + 1)) + 1 by omega, List.getElem?_cons_succ]
    · rw [if_neg h1]
      by_cases h2 : q = k
      · subst h2
        rw [if_pos (by omega), Array.getElem?_setIfInBounds, if_pos rfl, if_pos (by omega), Nat.sub_self]
        rfl
      · rw [if_neg (by omega), Array.getElem?_setIfInBounds]
        rw [if_neg (fun e => h2 e.symm)]
theorem Blk.setCellsV {g : Nat} {t : TypeId} : ∀ (vs : List Value) (k : Nat) (w : World) (cs : Array Value), Blk w g t cs → Blk (w.setCells g k vs) g t (layV cs k vs)
  | [], _, _, _, h => h
  | v :: r, k, _, _, h => Blk.setCellsV r (k + 1) _ _ (h.set k v)
theorem setCells_grown (g : Nat) : ∀ (vs : List Value) (k : Nat) (w : World), w.grownBy (w.setCells g k vs) (some g)
  | [], _, w => ⟨rfl, rfl, rfl, Nat.le_refl _, fun _ _ _ => rfl⟩
  | v :: r, k, w => by
    have h := setCells_grown g r (k + 1) (w.setCell ⟨g, k, none⟩ v)
    have b := (Below.refl 0 w).setCell (p := ⟨g, k, none⟩) (Nat.zero_le _) v
    exact ⟨h.os.trans b.os, h.tape.trans b.tape, h.output.trans b.output, Nat.le_trans b.size h.size, fun q hq hn => (h.block q (Nat.lt_of_lt_of_le hq b.size) hn).trans (heap_setCell_other w ⟨g, k, none⟩ q v fun e => hn (by rw [show q = g from e]))⟩

/-- a row by its cells -/
theorem opr_cells {B g cap : Nat} {w : World} {L : List (List Int)} (h : Opr B w (.slice (some ⟨g, 0, none⟩) L.length cap) L) (h14 : ∀ x ∈ L, x.length = 14) : ∃ cur, B ≤ g ∧ Blk w g 89 cur ∧ L.length ≤ cap ∧ cap ≤ maxLen ∧ cur.size = cap * 14 ∧ ∀ k, k < L.length → ∀ j, j < 14 → cur[k * 14 + j]? = ((L.getD k []).map (Value.int .u8))[j]? := by
  rcases h.2 with ⟨e, _⟩ | ⟨g', cap', cur, e, h1, h2, h3, h4, h5, h6⟩
  · cases e
  · injection e with e1 e2 e3
    injection e1 with e1
    injection e1 with e1 _ _
    subst e1 e3
    refine ⟨cur, h1, h2, h3, h4, h5, fun k hk j hj => ?_⟩
    rw [← rowsN_get L k j h14 hk hj, ← h6, List.getElem?_take, if_pos (by omega), Array.getElem?_toList]
theorem rowsV_len {s : Nat} : ∀ {L : List (List Int)}, (∀ x ∈ L, x.length = s) → (rowsV L).length = L.length * s
  | [], _ => by simp [rowsV]
  | x :: L, h => by
    have := rowsV_len (L := L) fun y hy => h y (by simp [hy])
    unfold rowsV at this ⊢
    rw [List.flatMap_cons, List.length_append, List.length_map, h x (by simp), this, List.length_cons, Nat.succ_mul]
    omega
theorem opr_of_cells {B g cap : Nat} {w : World} {L : List (List Int)} {cur : Array Value} (h14 : ∀ x ∈ L, x.length = 14) (h1 : B ≤ g) (h2 : Blk w g 89 cur) (h3 : L.length ≤ cap) (h4 : cap ≤ maxLen) (h5 : cur.size = cap * 14) (h6 : ∀ k, k < L.length → ∀ j, j < 14 → cur[k * 14 + j]? = ((L.getD k []).map (Value.int .u8))[j]?) : Opr B w (.slice (some ⟨g, 0, none⟩) L.length cap) L := by
  refine ⟨rowsV_len h14, .inr ⟨g, cap, cur, rfl, h1, h2, h3, h4, h5, ?_⟩⟩
  apply List.ext_getElem?
  intro q
  rw [List.getElem?_take]
  by_cases hq : q < L.length * 14
  · rw [if_pos hq, Array.getElem?_toList]
    have e : q = (q / 14) * 14 + q % 14 := by omega
    have hk : q / 14 < L.length := by omega
    have hj : q % 14 < 14 := by omega
    rw [e, h6 _ hk _ hj, rowsN_get L _ _ h14 hk hj]
  · rw [if_neg hq, List.getElem?_eq_none]
    rw [rowsV_len h14]; omega
/-- one pair written over -/
theorem opr_set {B g cap k : Nat} {w : World} {L : List (List Int)} {x : List Int} (h : Opr B w (.slice (some ⟨g, 0, none⟩) L.length cap) L) (h14 : ∀ x ∈ L, x.length = 14) (hk : k < L.length) (hx : x.length = 14) :
    Opr B (w.setCells g (k * 14) (u8s x).toList) (.slice (some ⟨g, 0, none⟩) L.length cap) (L.set k x) ∧ w.there g (k * 14) (u8s x).size := by
  obtain ⟨cur, h1, h2, h3, h4, h5, h6⟩ := opr_cells h h14
  have hl : (u8s x).toList.length = 14 := by simp [u8s, hx]
  have hfit : k * 14 + (u8s x).toList.length ≤ cur.size := by
    rw [hl, h5]
    have : (k + 1) * 14 ≤ cap * 14 := Nat.mul_le_mul_right 14 (by omega)
    omega
  refine ⟨?_, fun j hj => ⟨?_, h2.free _⟩⟩
  · have h7 := opr_of_cells (L := L.set k x) (cap := cap) (fun y hy => by
      rcases List.mem_or_eq_of_mem_set hy with e | e
      · exact h14 y e
      · rw [e]; exact hx) h1 (Blk.setCellsV (u8s x).toList (k * 14) w cur h2) (by rw [List.length_set]; exact h3) h4 (by rw [size_layV]; exact h5) (fun t ht j hj => ?_)
    · rwa [List.length_set] at h7
    · rw [List.length_set] at ht
      rw [layV_get _ _ _ _ hfit, hl]
      by_cases e : t = k
      · subst e
        rw [if_pos (by omega)]
        simp [u8s, ht]
      · rw [if_neg (by omega), h6 t ht j hj]
        rw [List.getD_eq_getElem?_getD, List.getD_eq_getElem?_getD, List.getElem?_set_ne (by omega)]
  · rw [h2.cell]
    rw [size_u8s, hx] at hj
    rw [hl] at hfit
    rw [Array.getElem?_eq_getElem (by omega)]
    rfl

/-- the list with its first and last i elements exchanged -/
def rvs (L : List (List Int)) (i : Nat) : List (List Int) := (List.range L.length).map fun t => if t < i ∨ L.length ≤ t + i then L.getD (L.length - 1 - t) [] else L.getD t []
theorem rvs_len (L : List (List Int)) (i : Nat) : (rvs L i).length = L.length := by simp [rvs]
theorem rvs_get {L : List (List Int)} {i t : Nat} (h : t < L.length) : (rvs L i).getD t [] = if t < i ∨ L.length ≤ t + i then L.getD (L.length - 1 - t) [] else L.getD t [] := by simp [rvs, h]
theorem rvs_mem {L : List (List Int)} {i : Nat} (x : List Int) (hx : x ∈ rvs L i) : x ∈ L := by
  obtain ⟨t, ht, rfl⟩ := List.mem_map.1 hx
  have := List.mem_range.1 ht
  split <;> exact getD_mem (by omega)
theorem rvs_zero (L : List (List Int)) : rvs L 0 = L := by
  refine list_eq_iff (rvs_len L 0) fun t ht => ?_
  rw [rvs_len] at ht
  rw [rvs_get ht, if_neg (by omega)]
theorem rvs_step {L : List (List Int)} {i : Nat} (h : 2 * i + 1 < L.length) : ((rvs L i).set i ((rvs L i).getD (L.length - 1 - i) [])).set (L.length - 1 - i) ((rvs L i).getD i []) = rvs L (i + 1) := by
  refine list_eq_iff (by rw [List.length_set, List.length_set, rvs_len, rvs_len]) fun t ht => ?_
  rw [List.length_set, List.length_set, rvs_len] at ht
  rw [rvs_get ht, rvs_get (by omega), rvs_get (by omega), if_neg (by omega), if_neg (by omega)]
  by_cases e1 : t = L.length - 1 - i
  · subst e1
    rw [if_pos (by omega), show L.length - 1 - (L.length - 1 - i) = i by omega]
    rw [List.getD_eq_getElem?_getD, List.getElem?_set_self (by rw [List.length_set, rvs_len]; omega)]
    rfl
  · by_cases e2 : t = i
    · subst e2
      rw [if_pos (by omega), List.getD_eq_getElem?_getD, List.getElem?_set_ne (by omega), List.getElem?_set_self (by rw [rvs_len]; omega)]
      rfl
    · rw [List.getD_eq_getElem?_getD, List.getElem?_set_ne (by omega), List.getElem?_set_ne (by omega), ← List.getD_eq_getElem?_getD, rvs_get ht]
      by_cases e3 : t < i ∨ L.length ≤ t + i
      · rw [if_pos e3, if_pos (by omega)]
      · rw [if_neg e3, if_neg (by omega)]
theorem rvs_end {L : List (List Int)} {i : Nat} (h : L.length ≤ 2 * i + 1) : rvs L i = L.reverse := by
  refine list_eq_iff (by rw [rvs_len, List.length_reverse]) fun t ht => ?_
  rw [rvs_len] at ht
  have e : L.reverse.getD t [] = L.getD (L.length - 1 - t) [] := by
    rw [List.getD_eq_getElem?_getD, List.getElem?_reverse ht, ← List.getD_eq_getElem?_getD]
  rw [rvs_get ht, e]
  split
  · rfl
  · congr 1
    omega

set_option maxRecDepth 100000 in
set_option maxHeartbeats 4000000 in
theorem reverse_any {B : Nat} {v : Value} {L : List (List Int)} {w : World} (h : Opr B w v L) (h14 : ∀ x ∈ L, x.length = 14) (hn : L.length ≤ 1000000) :
    Calls Try.prog 99 #[v] w fun e w' => e = .returned (.tuple #[]) ∧ Opr B w' v L.reverse ∧ w.grownBy w' v.ownBlock := by
  have H14 := Lib.hid h14
  obtain ⟨n, hnn⟩ : ∃ n, n = L.length := ⟨_, rfl⟩
  have HN := Lib.hid hnn
  have HO := Lib.hid h
  obtain ⟨av, cv, rfl⟩ := h.slice
  rw [← hnn] at HO hn ⊢
  clear h h14 hnn
  have HO0 := Lib.hid (show Opr B w (.slice av n cv) (rvs L 0) by rw [rvs_zero]; exact HO.out)
  have HG0 := Lib.hid (show w.grownBy w (Value.slice av n cv).ownBlock from ⟨rfl, rfl, rfl, Nat.le_refl _, fun _ _ _ => rfl⟩)
  go_enter Try.func99, Try.ntmps99
  go_wp2_with fail
  go_loopw [2, 3] (fun iv jv wr => ∃ i : Nat, iv = .int .i64 i ∧ jv = .int .i64 ((n : Int) - 1 - i) ∧ 2 * i ≤ n ∧ Hid (Opr B wr (.slice av n cv) (rvs L i)) ∧ Hid (w.grownBy wr (Value.slice av n cv).ownBlock)) (fun iv _ _ => n - (intOf iv).toNat)
  case atStart => exact ⟨0, rfl, by simp, Nat.zero_le _, HO0, HG0⟩
  case round =>
    clear HO0 HG0 HO
    obtain ⟨i, rfl, rfl, hi, HO, HG⟩ := hrel
    by_cases hlt : 2 * i + 1 < n
    · obtain ⟨g, cap, e⟩ := HO.out.form (by rw [rvs_len, ← HN.out]; omega)
      injection e with e1 e2 e3
      subst e1 e3
      clear e2
      obtain ⟨j, hj⟩ : ∃ j, j = n - 1 - i := ⟨_, rfl⟩
      have hij : i < j := by omega
      have hjn : j < n := by omega
      have hjc : (n : Int) - 1 - i = (j : Int) := by omega
      obtain ⟨M, hM⟩ : ∃ M, M = rvs L i := ⟨_, rfl⟩
      have hMl : M.length = n := by rw [hM, rvs_len]; exact HN.out.symm
      have hM14 : ∀ x ∈ M, x.length = 14 := fun x hx => H14.out x (rvs_mem x (by rw [← hM]; exact hx))
      have hMs : (M.set i (M.getD j [])).set j (M.getD i []) = rvs L (i + 1) := by
        have := rvs_step (L := L) (i := i) (by rw [← HN.out]; exact hlt)
        rw [← HN.out, ← hj, ← hM] at this
        exact this
      rw [← hM] at HO
      obtain ⟨p, hp⟩ : ∃ p, p = M.getD i [] := ⟨_, rfl⟩
      obtain ⟨q, hq⟩ : ∃ q, q = M.getD j [] := ⟨_, rfl⟩
      have hp14 : p.length = 14 := by rw [hp]; exact hM14 _ (getD_mem (by omega))
      have hq14 : q.length = 14 := by rw [hq]; exact hM14 _ (getD_mem (by omega))
      rw [← hp, ← hq] at hMs
      have ho : Opr B wr.drew (.slice (some ⟨g, 0, none⟩) M.length cv) M := by rw [hMl]; exact HO.out
      have hrp := ho.range hM14 i (by omega)
      have hrq := ho.range hM14 j (by omega)
      rw [← hp] at hrp
      rw [← hq] at hrq
      obtain ⟨s1, t1⟩ := opr_set ho hM14 (k := i) (x := q) (by omega) hq14
      have hM14' : ∀ x ∈ M.set i q, x.length = 14 := fun x hx => by
        rcases List.mem_or_eq_of_mem_set hx with e | e
        · exact hM14 x e
        · rw [e]; exact hq14
      have s1' : Opr B (wr.drew.setCells g (i * 14) (u8s q).toList) (.slice (some ⟨g, 0, none⟩) (M.set i q).length cv) (M.set i q) := by rw [List.length_set]; exact s1
      obtain ⟨s2, t2⟩ := opr_set s1' hM14' (k := j) (x := p) (by rw [List.length_set]; omega) hp14
      rw [hMs, List.length_set, hMl] at s2
      have gr1 := setCells_grown g (u8s q).toList (i * 14) wr.drew
      have gr2 := setCells_grown g (u8s p).toList (j * 14) (wr.drew.setCells g (i * 14) (u8s q).toList)
      have RP := Lib.hid hrp
      have RQ := Lib.hid hrq
      have S2 := Lib.hid s2
      have T1 := Lib.hid t1
      have T2 := Lib.hid t2
      have HG2 := Lib.hid (show w.grownBy ((wr.drew.setCells g (i * 14) (u8s q).toList).setCells g (j * 14) (u8s p).toList) (Value.slice (some ⟨g, 0, none⟩) n cv).ownBlock from
        ⟨gr2.os.trans (gr1.os.trans HG.out.os), gr2.tape.trans (gr1.tape.trans HG.out.tape), gr2.output.trans (gr1.output.trans HG.out.output), Nat.le_trans HG.out.size (Nat.le_trans gr1.size gr2.size), fun b hb hne => by
          have hne2 : some b ≠ some g := hne
          have z1 := HG.out.size
          have z2 := gr1.size
          have z0 : wr.drew.heap.size = wr.heap.size := rfl
          exact (gr2.block b (by omega) hne2).trans ((gr1.block b (by omega) hne2).trans (HG.out.block b hb hne))⟩)
      have P14 := Lib.hid hp14
      have Q14 := Lib.hid hq14
      have HJ := Lib.hid hj
      clear hj hM hMl hM14 hMs hp hq hp14 hq14 ho hrp hrq s1 t1 hM14' s1' s2 t2 gr1 gr2 HO HG
      rw [hjc]
      go_wp2_with fail
      refine wp_region_cut2 (S := fun _ => True) (fun a a' w' => a' = ((((((((((((((a.put (some 14) (.slice (some ⟨g, 0, none⟩) n cv)).put (some 15) (.int .i64 i)).put (some 16) (.slice (some ⟨g, 0, none⟩) n cv)).put (some 17) (.int .i64 j)).put (some 18) (.slice (some ⟨g, 0, none⟩) n cv)).put (some 19) (.int .i64 j)).put (some 20) (.pointer (some ⟨g, j * 14, none⟩))).put (some 21) (.agg (u8s q))).put (some 22) (.slice (some ⟨g, 0, none⟩) n cv)).put (some 23) (.int .i64 i)).put (some 24) (.pointer (some ⟨g, i * 14, none⟩))).put (some 25) (.agg (u8s p))).put (some 26) (.pointer (some ⟨g, i * 14, none⟩))).put (some 27) (.pointer (some ⟨g, j * 14, none⟩))) ∧ w' = ((wr.drew.setCells g (i * 14) (u8s q).toList).setCells g (j * 14) (u8s p).toList)) (by kernel_rfl) ?_ ?_
      · skip
        refine held_take (i := 0) (v := .slice (some ⟨g, 0, none⟩) n cv) rfl rfl (by kernel_rfl) (by kernel_rfl) (by kernel_rfl) (fun w' h => by go_simp) trivial ?_
        refine held_take (i := 1) (v := .int .i64 i) rfl rfl (by kernel_rfl) (by kernel_rfl) (by kernel_rfl) (fun w' h => by go_simp) trivial ?_
        refine held_take (i := 2) (v := .slice (some ⟨g, 0, none⟩) n cv) rfl rfl (by kernel_rfl) (by kernel_rfl) (by kernel_rfl) (fun w' h => by go_simp) trivial ?_
        refine held_take (i := 3) (v := .int .i64 j) rfl rfl (by kernel_rfl) (by kernel_rfl) (by kernel_rfl) (fun w' h => by go_simp) trivial ?_
        refine held_take (i := 4) (v := .slice (some ⟨g, 0, none⟩) n cv) rfl rfl (by kernel_rfl) (by kernel_rfl) (by kernel_rfl) (fun w' h => by go_simp) trivial ?_
        refine held_take (i := 5) (v := .int .i64 j) rfl rfl (by kernel_rfl) (by kernel_rfl) (by kernel_rfl) (fun w' h => by go_simp) trivial ?_
        simp [Act.put]
        refine held_take (i := 6) (v := .pointer (some ⟨g, j * 14, none⟩)) rfl rfl (by kernel_rfl) (by kernel_rfl) (by kernel_rfl) (fun w' h => by first | (go_simp; intro h0; omega) | go_simp) trivial ?_
        refine held_take (i := 8) (v := .slice (some ⟨g, 0, none⟩) n cv) rfl rfl (by kernel_rfl) (by kernel_rfl) (by kernel_rfl) (fun w' h => by go_simp) trivial ?_
        refine held_take (i := 9) (v := .int .i64 i) rfl rfl (by kernel_rfl) (by kernel_rfl) (by kernel_rfl) (fun w' h => by go_simp) trivial ?_
        simp [Act.put]
        refine held_take (i := 10) (v := .pointer (some ⟨g, i * 14, none⟩)) rfl rfl (by kernel_rfl) (by kernel_rfl) (by kernel_rfl) (fun w' h => by first | (go_simp; intro h0; omega) | go_simp) trivial ?_
        simp [Act.put]
        refine wpAnyH_all (rs := [7, 11]) (by kernel_rfl) (by simp) (fun j' hj' => ?_)
        rcases (show j' = 7 ∨ j' = 11 by simpa using hj') with rfl | rfl
        · refine held_pick2 (i := 7) rfl rfl (wp_load_mid 89 _ rfl g (j * 14) rfl (q.map (Value.int .u8)) _ RQ.out Try.underlying89 rfl (infoPr14 Q14.out) ⟨trivial, ?_⟩)
          refine held_only (i := 11) rfl rfl (by kernel_rfl) (wp_load_mid 89 _ rfl g (i * 14) rfl (p.map (Value.int .u8)) _ RP.out Try.underlying89 rfl (infoPr14 P14.out) ⟨trivial, ?_⟩)
          simp [Act.put]
          refine held_take (i := 12) (v := .pointer (some ⟨g, i * 14, none⟩)) rfl rfl (by kernel_rfl) (by kernel_rfl) (by kernel_rfl) (fun w' h => by first | (go_simp; intro h0; omega) | go_simp) trivial ?_
          simp [Act.put]
          refine held_only (i := 13) rfl rfl (by kernel_rfl) (wp_store_mid 89 _ _ rfl g (i * 14) (u8s q) rfl rfl T1.out (infoPr' Q14.out) (u8s_one q) ⟨trivial, ?_⟩)
          refine held_take (i := 14) (v := .pointer (some ⟨g, j * 14, none⟩)) rfl rfl (by kernel_rfl) (by kernel_rfl) (by kernel_rfl) (fun w' h => by first | (go_simp; intro h0; omega) | go_simp) trivial ?_
          simp [Act.put]
          refine held_only (i := 15) rfl rfl (by kernel_rfl) (wp_store_mid 89 _ _ rfl g (j * 14) (u8s p) rfl rfl T2.out (infoPr' P14.out) (u8s_one p) ⟨trivial, ?_⟩)
          exact held_done (by kernel_rfl) ⟨by simp [Act.put, u8s], rfl⟩
        · refine held_pick2 (i := 11) rfl rfl (wp_load_mid 89 _ rfl g (i * 14) rfl (p.map (Value.int .u8)) _ RP.out Try.underlying89 rfl (infoPr14 P14.out) ⟨trivial, ?_⟩)
          refine held_only (i := 7) rfl rfl (by kernel_rfl) (wp_load_mid 89 _ rfl g (j * 14) rfl (q.map (Value.int .u8)) _ RQ.out Try.underlying89 rfl (infoPr14 Q14.out) ⟨trivial, ?_⟩)
          simp [Act.put]
          refine held_take (i := 12) (v := .pointer (some ⟨g, i * 14, none⟩)) rfl rfl (by kernel_rfl) (by kernel_rfl) (by kernel_rfl) (fun w' h => by first | (go_simp; intro h0; omega) | go_simp) trivial ?_
          simp [Act.put]
          refine held_only (i := 13) rfl rfl (by kernel_rfl) (wp_store_mid 89 _ _ rfl g (i * 14) (u8s q) rfl rfl T1.out (infoPr' Q14.out) (u8s_one q) ⟨trivial, ?_⟩)
          refine held_take (i := 14) (v := .pointer (some ⟨g, j * 14, none⟩)) rfl rfl (by kernel_rfl) (by kernel_rfl) (by kernel_rfl) (fun w' h => by first | (go_simp; intro h0; omega) | go_simp) trivial ?_
          simp [Act.put]
          refine held_only (i := 15) rfl rfl (by kernel_rfl) (wp_store_mid 89 _ _ rfl g (j * 14) (u8s p) rfl rfl T2.out (infoPr' P14.out) (u8s_one p) ⟨trivial, ?_⟩)
          exact held_done (by kernel_rfl) ⟨by simp [Act.put, u8s], rfl⟩
      · rintro a' w' ⟨rfl, rfl⟩
        have HG3 := Lib.hid (show w.grownBy ((wr.drew.setCells g (i * 14) (u8s q).toList).setCells g (j * 14) (u8s p).toList) (Value.slice (some ⟨g, 0, none⟩) n cv).ownBlock from HG2.out)
        have S3 := Lib.hid (show Opr B ((wr.drew.setCells g (i * 14) (u8s q).toList).setCells g (j * 14) (u8s p).toList) (.slice (some ⟨g, 0, none⟩) n cv) (rvs L (i + 1)) from S2.out)
        simp [Act.put]
        clear RP RQ T1 T2 HG2 S2
        go_wp2_with fail
        go_roundw
        case rel => exact ⟨i + 1, by go_num, by rw [← hjc]; go_num, by omega, S3, HG3⟩
        case measure => simp [intOf]; omega
    · have HOf := Lib.hid (show Opr B wr (.slice av n cv) L.reverse by rw [← rvs_end (L := L) (i := i) (by rw [← HN.out]; omega)]; exact HO.out)
      have hge : ¬ ((i : Int) < (n : Int) - 1 - i) := by omega
      clear HO
      go_wp2_with fail
      go_end0
      exact ⟨rfl, HOf.out, HG.out⟩
end Go.Proofs.Ytjnjhfificpbbaa
