/- perm.mul, perm.inverse, perm.identity make the product, the inverse and the identity in new memory; nothing that lay has turned. -/
import Derived.Test.YtcnkegcogepimaaDoorProg
import Derived.Test.YtcnkegcogepimaaDoorBase
import Derived.Test.YtcnkegcogepimaaDoorLists
import Derived.Deep.QuietTactic
import Derived.BigQuiet
namespace Go.Proofs.YtcnkegcogepimaaDoor
open Go.RowKit

theorem infoInt : (Tryd.prog.info? 3).map (fun i => (i.zero, i.size, i.bytes)) = some (some (.int .i64 0), 1, 8) := by kernel_rfl

set_option maxHeartbeats 400000 in
theorem mul_any (v1 v2 : Value) (p q : List Int) (w : World) (h1 : Sl w v1 p) (h2 : Sl w v2 q) (hp : p.length ≤ 1000000) (hq : q.length ≤ 1000000) (hr : inR p q.length) :
    Calls Tryd.prog 33 #[v1, v2] w fun e w' => ∃ v, e = .returned v ∧ Ow w.heap.size w' v (mulL p q) ∧ Below w.heap.size w w' := by
  obtain ⟨a, ca, rfl, h1⟩ := h1
  obtain ⟨b, cb, rfl, h2⟩ := h2
  obtain ⟨i0, hi, hz0, hz1, hz2⟩ := info_parts infoInt
  go_enter Tryd.func33, Tryd.ntmps33
  go_wp2_with (at_make; refine wpList_make_full _ rfl _ _ 23 rfl w.heap.size 3 i0 (.int .i64 0) 1 Tryd.underlying23 hi hz0 hz1 _ _ _ _ p.length rfl rfl rfl rfl (by rw [hz2]; omega) (by unfold maxLen; omega) (Nat.le_refl _) ?_; intro w1 hown hgrow)
  clear i0 hi hz0 hz1 hz2
  have HB := Lib.hid (blk_of_made hown)
  have hb := Below.of_grown hgrow
  have hsz : w.heap.size ≤ w1.heap.size := hb.size
  clear hown hgrow
  go_wp2
  go_loopw [13] (fun i wr => ∃ k : Nat, k ≤ p.length ∧ i = .int .i64 k ∧ Hid (Blk wr w.heap.size 3 (ints ((mulL p q).take k ++ List.replicate (p.length - k) 0))) ∧ Below w.heap.size w wr) (fun i _ => p.length - (intOf i).toNat)
  case atStart => exact ⟨0, Nat.zero_le _, rfl, by rw [List.take_zero]; exact HB, hb⟩
  case round =>
    clear HB hb hsz
    obtain ⟨k, hk, rfl, HB, hb⟩ := hrel
    by_cases hlt : k < p.length
    · rcases h1 with h1 | ⟨b1, o1, rfl, c1⟩
      · simp [h1] at hlt
      obtain ⟨r0, r1⟩ := hr k hlt
      have hb1 : b1 < w.heap.size := World.block_lt_of_cell? w _ (c1 0 (by omega))
      obtain ⟨x, hx0⟩ : ∃ x, x = p.getD k 0 := ⟨_, rfl⟩
      have g1 : wr.cell? ⟨b1, o1 + k, none⟩ = some (.int .i64 x) := by rw [hx0]; exact (hb.cell (p := ⟨b1, o1 + k, none⟩) hb1).trans (c1 k hlt)
      rw [← hx0] at r0 r1
      obtain ⟨j, rfl⟩ := Int.eq_ofNat_of_zero_le r0
      have hj : j < q.length := by omega
      rcases h2 with h2 | ⟨b2, o2, rfl, c2⟩
      · simp [h2] at hj
      have hb2 : b2 < w.heap.size := World.block_lt_of_cell? w _ (c2 0 (by omega))
      obtain ⟨y, hy0⟩ : ∃ y, y = q.getD j 0 := ⟨_, rfl⟩
      have g2 : wr.cell? ⟨b2, o2 + j, none⟩ = some (.int .i64 y) := by rw [hy0]; exact (hb.cell (p := ⟨b2, o2 + j, none⟩) hb2).trans (c2 j hj)
      have hy : y = (mulL p q).getD k 0 := by rw [mulL_get p q k hlt, ← hx0, hy0]; rfl
      have HY := Lib.hid hy
      have hf := HB.out.free k
      have hc : ∃ u, wr.cell? ⟨w.heap.size, k, none⟩ = some u := by
        rw [HB.out.cell k, ints_get _ _ (by simp [length_mulL]; omega)]; exact ⟨_, rfl⟩
      obtain ⟨u, hc⟩ := hc
      clear hx0 hy0 hy c1 c2 r0 r1
      go_wp2
      go_roundw
      case rel =>
        refine ⟨k + 1, by omega, by go_num, Lib.hid ?_, hb.setCell (Nat.le_refl _) _⟩
        have := HB.out.set k (.int .i64 y)
        rw [ints_set] at this
        have e := fill_set (mulL p q) k (by rw [length_mulL]; exact hlt) y HY.out
        rw [length_mulL] at e
        rwa [e] at this
      case measure => simp [intOf]; omega
    · have hke : k = p.length := by omega
      have hO : Ow w.heap.size wr (.slice (some ⟨w.heap.size, 0, none⟩) p.length p.length) (mulL p q) := by
        have := HB.out
        rw [hke, Nat.sub_self, List.replicate_zero, List.append_nil, List.take_of_length_le (by rw [length_mulL]; exact Nat.le_refl _)] at this
        exact Ow.of_blk this (Nat.le_refl _) (by rw [length_mulL]; exact hp) _ (length_mulL p q).symm
      have hlt' : p.length ≤ k := by omega
      clear hke HB
      go_wp2
      go_ret
      exact ⟨_, rfl, hO, hb⟩

set_option maxHeartbeats 400000 in
theorem inverse_any (v1 : Value) (p : List Int) (w : World) (h1 : Sl w v1 p) (hp : p.length ≤ 1000000) (hr : inR p p.length) :
    Calls Tryd.prog 34 #[v1] w fun e w' => ∃ v, e = .returned v ∧ Ow w.heap.size w' v (invL p) ∧ Below w.heap.size w w' := by
  obtain ⟨a, ca, rfl, h1⟩ := h1
  obtain ⟨i0, hi, hz0, hz1, hz2⟩ := info_parts infoInt
  go_enter Tryd.func34, Tryd.ntmps34
  go_wp2_with (at_make; refine wpList_make_full _ rfl _ _ 23 rfl w.heap.size 3 i0 (.int .i64 0) 1 Tryd.underlying23 hi hz0 hz1 _ _ _ _ p.length rfl rfl rfl rfl (by rw [hz2]; omega) (by unfold maxLen; omega) (Nat.le_refl _) ?_; intro w1 hown hgrow)
  clear i0 hi hz0 hz1 hz2
  have HB := Lib.hid (blk_of_made hown)
  have hb := Below.of_grown hgrow
  clear hown hgrow
  go_wp2
  go_loopw [11] (fun i wr => ∃ k : Nat, k ≤ p.length ∧ i = .int .i64 k ∧ Hid (Blk wr w.heap.size 3 (ints (invTo p k))) ∧ Below w.heap.size w wr) (fun i _ => p.length - (intOf i).toNat)
  case atStart => exact ⟨0, Nat.zero_le _, rfl, HB, hb⟩
  case round =>
    clear HB hb
    obtain ⟨k, hk, rfl, HB, hb⟩ := hrel
    by_cases hlt : k < p.length
    · rcases h1 with h1 | ⟨b1, o1, rfl, c1⟩
      · simp [h1] at hlt
      obtain ⟨r0, r1⟩ := hr k hlt
      have hb1 : b1 < w.heap.size := World.block_lt_of_cell? w _ (c1 0 (by omega))
      obtain ⟨x, hx0⟩ : ∃ x, x = p.getD k 0 := ⟨_, rfl⟩
      have g1 : wr.cell? ⟨b1, o1 + k, none⟩ = some (.int .i64 x) := by rw [hx0]; exact (hb.cell (p := ⟨b1, o1 + k, none⟩) hb1).trans (c1 k hlt)
      rw [← hx0] at r0 r1
      obtain ⟨j, rfl⟩ := Int.eq_ofNat_of_zero_le r0
      have hj : j < p.length := by omega
      have HX := Lib.hid hx0
      have hf := HB.out.free j
      have hc : ∃ u, wr.cell? ⟨w.heap.size, j, none⟩ = some u := by
        rw [HB.out.cell j, ints_get _ _ (by rw [length_invTo]; exact hj)]; exact ⟨_, rfl⟩
      obtain ⟨u, hc⟩ := hc
      clear hx0 c1 r0 r1
      go_wp2
      go_roundw
      case rel =>
        refine ⟨k + 1, by omega, by go_num, Lib.hid ?_, hb.setCell (Nat.le_refl _) _⟩
        have := HB.out.set j (.int .i64 k)
        rw [ints_set] at this
        rw [invTo, ← HX.out]
        exact this
      case measure => simp [intOf]; omega
    · have hke : k = p.length := by omega
      have hO : Ow w.heap.size wr (.slice (some ⟨w.heap.size, 0, none⟩) p.length p.length) (invL p) := by
        have := HB.out
        rw [hke] at this
        exact Ow.of_blk this (Nat.le_refl _) (by rw [length_invTo]; exact hp) _ (length_invL p).symm
      have hlt' : p.length ≤ k := by omega
      clear hke HB
      go_wp2
      go_ret
      exact ⟨_, rfl, hO, hb⟩

set_option maxHeartbeats 400000 in
theorem identity_blk (n : Nat) (w : World) (hn : n ≤ 1000000) :
    Calls Tryd.prog 36 #[.int .i64 n] w fun e w' => e = .returned (.slice (some ⟨w.heap.size, 0, none⟩) n n) ∧ Blk w' w.heap.size 3 (ints (idL n)) ∧ Below w.heap.size w w' := by
  obtain ⟨i0, hi, hz0, hz1, hz2⟩ := info_parts infoInt
  go_enter Tryd.func36, Tryd.ntmps36
  go_wp2_with (at_make; refine wpList_make_full _ rfl _ _ 23 rfl w.heap.size 3 i0 (.int .i64 0) 1 Tryd.underlying23 hi hz0 hz1 _ _ _ _ n rfl rfl rfl rfl (by rw [hz2]; omega) (by unfold maxLen; omega) (Nat.le_refl _) ?_; intro w1 hown hgrow)
  clear i0 hi hz0 hz1 hz2
  have HB := Lib.hid (blk_of_made hown)
  have hb := Below.of_grown hgrow
  clear hown hgrow
  go_wp2
  go_loopw [9] (fun i wr => ∃ k : Nat, k ≤ n ∧ i = .int .i64 k ∧ Hid (Blk wr w.heap.size 3 (ints ((idL n).take k ++ List.replicate (n - k) 0))) ∧ Below w.heap.size w wr) (fun i _ => n - (intOf i).toNat)
  case atStart => exact ⟨0, Nat.zero_le _, rfl, by rw [List.take_zero]; exact HB, hb⟩
  case round =>
    clear HB hb
    obtain ⟨k, hk, rfl, HB, hb⟩ := hrel
    by_cases hlt : k < n
    · have hf := HB.out.free k
      have hc : ∃ u, wr.cell? ⟨w.heap.size, k, none⟩ = some u := by
        rw [HB.out.cell k, ints_get _ _ (by simp [length_idL]; omega)]; exact ⟨_, rfl⟩
      obtain ⟨u, hc⟩ := hc
      go_wp2
      go_roundw
      case rel =>
        refine ⟨k + 1, by omega, by go_num, Lib.hid ?_, hb.setCell (Nat.le_refl _) _⟩
        have := HB.out.set k (.int .i64 k)
        rw [ints_set] at this
        have e := fill_set (idL n) k (by rw [length_idL]; exact hlt) k (idL_get n k hlt).symm
        rw [length_idL] at e
        rwa [e] at this
      case measure => simp [intOf]; omega
    · have hke : k = n := by omega
      have hO : Blk wr w.heap.size 3 (ints (idL n)) := by
        have := HB.out
        rwa [hke, Nat.sub_self, List.replicate_zero, List.append_nil, List.take_of_length_le (by rw [length_idL]; exact Nat.le_refl _)] at this
      have hlt' : n ≤ k := by omega
      have HO := Lib.hid hO
      clear hke HB hO
      go_wp2
      go_ret
      exact ⟨rfl, HO.out, hb⟩
theorem identity_any (n : Nat) (w : World) (hn : n ≤ 1000000) :
    Calls Tryd.prog 36 #[.int .i64 n] w fun e w' => ∃ v, e = .returned v ∧ Ow w.heap.size w' v (idL n) ∧ Below w.heap.size w w' :=
  (identity_blk n w hn).mono fun _ _ ⟨he, hB, hb⟩ => ⟨_, he, Ow.of_blk hB (Nat.le_refl _) (by rw [length_idL]; exact hn) _ (length_idL n).symm, hb⟩

end Go.Proofs.YtcnkegcogepimaaDoor
