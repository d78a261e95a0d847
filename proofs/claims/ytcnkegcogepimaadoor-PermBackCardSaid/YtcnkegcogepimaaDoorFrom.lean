/- perm.cycleFrom collects the points of a cycle in new memory. -/
import Derived.Test.YtcnkegcogepimaaDoorProg
import Derived.Test.YtcnkegcogepimaaDoorBase
import Derived.Test.YtcnkegcogepimaaDoorLists
import Derived.Test.YtcnkegcogepimaaDoorCycL
import Derived.Test.YtcnkegcogepimaaDoorMul
import Derived.Maps.AppendAt
import Derived.Deep.QuietTactic
import Derived.BigQuiet
namespace Go.Proofs.YtcnkegcogepimaaDoor
open Go.RowKit

set_option maxHeartbeats 400000 in
theorem from_any (v1 : Value) (p : List Int) (x0 : Nat) (w : World) (h1 : Sl w v1 p) (hv : validL p = true) (hx : x0 < p.length) :
    Calls Tryd.prog 44 #[v1, .int .i64 x0] w fun e w' => ∃ v, e = .returned v ∧ Ow w.heap.size w' v (cyL p x0) ∧ Below w.heap.size w w' := by
  have hp7 : p.length ≤ 7 := ((validL_iff p).1 hv).2.1
  obtain ⟨a, ca, rfl, h1⟩ := h1
  rcases h1 with h1 | ⟨b1, o1, rfl, c1⟩
  · simp [h1] at hx
  obtain ⟨i0, hi, hz0, hz1, hz2⟩ := info_parts infoInt
  have hpt : pt p (x0 : Int) := ⟨by omega, by omega⟩
  obtain ⟨hle, hback, hne⟩ := per_spec hv hpt
  have HV := Lib.hid hv
  have HP := Lib.hid hpt
  have HK := Lib.hid hback
  have HN := Lib.hid hne
  have hb1 : b1 < w.heap.size := World.block_lt_of_cell? w _ (c1 0 (by omega))
  have hper : 1 ≤ per p x0 := by unfold per; omega
  have g0 : w.cell? ⟨b1, o1 + x0, none⟩ = some (.int .i64 (sq p x0 1)) := by
    rw [c1 x0 hx]; rfl
  have C1 := Lib.hid c1
  clear hv hpt hback hne c1
  go_enter Tryd.func44, Tryd.ntmps44
  go_wp2
  go_loopw [5, 6] (fun v x wr => ∃ k : Nat, 1 ≤ k ∧ k ≤ per p x0 ∧ x = .int .i64 (sq p x0 k) ∧ Ow w.heap.size wr v ((cyL p x0).take k) ∧ Below w.heap.size w wr) (fun v _ _ => per p x0 - lenOf v)
  case atStart =>
    refine ⟨1, Nat.le_refl _, hper, rfl, ?_, (Below.refl _ w).alloc (Nat.le_refl _) _⟩
    rw [cyL_take_succ p x0 0 (by omega)]
    have := Blk.new w 3 (ints [(x0 : Int)])
    exact Ow.of_blk this (Nat.le_refl _) (by simp) 1 rfl
  case round =>
    obtain ⟨k, hk1, hk, rfl, hO, hb⟩ := hrel
    have hlt : ((cyL p x0).take k).length = k := by rw [List.length_take, length_cyL, Nat.min_eq_left hk]
    obtain ⟨y, hy0⟩ : ∃ y, y = sq p x0 k := ⟨_, rfl⟩
    rw [← hy0]
    have hy := sq_pt HV.out HP.out k
    rw [← hy0] at hy
    obtain ⟨y0, y1⟩ := hy
    have HY := Lib.hid hy0
    clear hy0
    have HL := Lib.hid hlt
    clear hlt
    by_cases hkp : k = per p x0
    · have e : y = (x0 : Int) := by rw [HY.out, hkp]; exact HK.out
      have ht : (y != (x0 : Int)) = false := by simp [e]
      have hO2 : Ow w.heap.size wr u5 (cyL p x0) := by
        rw [List.take_of_length_le (by rw [length_cyL]; omega)] at hO
        exact hO
      have HO2 := Lib.hid hO2
      clear hO hO2 e hkp
      go_wp2
      go_ret
      exact ⟨_, rfl, HO2.out, hb⟩
    · have ht : (y != (x0 : Int)) = true := by
        rw [bne_iff_ne, HY.out]
        exact HN.out k hk1 (by omega)
      obtain ⟨j, rfl⟩ := Int.eq_ofNat_of_zero_le y0
      have g1 : wr.cell? ⟨b1, o1 + j, none⟩ = some (.int .i64 (sq p x0 (k + 1))) := by
        rw [(hb.cell (p := ⟨b1, o1 + j, none⟩) hb1), C1.out j (by omega)]
        show _ = some (Value.int .i64 (im p (sq p x0 k)))
        rw [← HY.out]
        rfl
      have hkp' : k + 1 ≤ per p x0 := by omega
      have hO' := hO
      unfold Ow at hO'
      clear hkp
      go_wp2_with (at_builtin; refine wpList_append_own _ rfl _ _ 22 rfl w.heap.size 3 i0 (.int .i64 0) 1 8 Tryd.underlying22 hi hz0 hz1 hz2 rfl (by decide) _ _ _ rfl (hO'.alloc _) ⟨wr.heap.size, 0, none⟩ 1 1 [.int .i64 j] rfl rfl (cell_one_new _ _ _) (by simp [Value.oneCell']) (by rw [HL.out]; unfold maxLen; omega) (by rw [HL.out]; omega) (by have := hb.size; simp; omega) ?_; intro v' w1 hown' hgrow _; have hb2 : Below w.heap.size w w1 := (hb.alloc hb.size _).grown hgrow (by have := hb.size; simp; omega) (fun r e => (hO'.lt r e).1); have g2 : w1.cell? ⟨b1, o1 + j, none⟩ = some (.int .i64 (sq p x0 (k + 1))) := ((hb2.cell (p := ⟨b1, o1 + j, none⟩) hb1).trans (hb.cell (p := ⟨b1, o1 + j, none⟩) hb1).symm).trans g1)
      have hO2 : Ow w.heap.size w1 v' ((cyL p x0).take (k + 1)) := by
        rw [cyL_take_succ p x0 k (by omega), ← HY.out]
        exact Ow.push hown'
      have HO2 := Lib.hid hO2
      have hlen : lenOf v' = k + 1 := by
        obtain ⟨a2, c2, e, _⟩ := hO2.sl
        rw [e, List.length_take, length_cyL, Nat.min_eq_left hkp']
        rfl
      have hlen0 : lenOf u5 = k := by
        obtain ⟨a2, c2, e, _⟩ := hO.sl
        rw [e, HL.out]
        rfl
      have HL1 := Lib.hid hlen
      have HL0 := Lib.hid hlen0
      clear hO2 hO hO' hlen hlen0 hown' hgrow g1
      go_wp2
      go_roundw
      case rel => exact ⟨k + 1, by omega, hkp', rfl, HO2.out, hb2⟩
      case measure =>
        have e1 := HL1.out
        have e0 := HL0.out
        simp [e1, e0]
        omega
end Go.Proofs.YtcnkegcogepimaaDoor
