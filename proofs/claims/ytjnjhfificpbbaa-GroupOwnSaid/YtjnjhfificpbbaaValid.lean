/- perm.Valid answers whether its argument is a permutation of 1 to 7 points, and nothing that lay has turned. -/
import Derived.Test.YtjnjhfificpbbaaProg
import Derived.Test.YtjnjhfificpbbaaBase
import Derived.Test.YtjnjhfificpbbaaLists
import Derived.Deep.QuietTactic
import Derived.BigQuiet
namespace Go.Proofs.Ytjnjhfificpbbaa
open Go.RowKit

set_option maxHeartbeats 400000 in
theorem valid_any (v : Value) (zs : List Int) (w : World) (h : Sl w v zs) (hx : zs.length ≤ 1000000) :
    Calls Try.prog 66 #[v] w fun e w' => e = .returned (.bool (validL zs)) ∧ Below w.heap.size w w' := by
  obtain ⟨a, ca, rfl, h⟩ := h
  by_cases hl1 : zs.length < 1
  · have hv := Lib.hid (validL_no_len (.inl hl1))
    go_enter Try.func66, Try.ntmps66
    go_wp2
    go_ret
    exact ⟨ret_bool hv.out.symm, Below.refl _ _⟩
  by_cases hl7 : 7 < zs.length
  · have hv := Lib.hid (validL_no_len (.inr hl7))
    go_enter Try.func66, Try.ntmps66
    go_wp2
    go_ret
    exact ⟨ret_bool hv.out.symm, Below.refl _ _⟩
  have b0 : Blk (w.alloc (.cells (mk []) 109)) w.heap.size 109 (mk []) := Blk.new _ _ _
  rw [mk_nil] at b0
  go_enter Try.func66, Try.ntmps66
  go_wp2
  go_loopw [16] (fun i wr => ∃ k : Nat, k ≤ zs.length ∧ i = .int .i64 k ∧ Hid (goodTo zs k) ∧ Blk wr w.heap.size 109 (mk (zs.take k)) ∧ Below w.heap.size w wr) (fun i _ => zs.length - (intOf i).toNat)
  case atStart => exact ⟨0, Nat.zero_le _, rfl, Lib.hid (goodTo_zero zs), by rw [List.take_zero, mk_nil]; exact b0, (Below.refl _ w).alloc (Nat.le_refl _) _⟩
  case round =>
    clear b0
    obtain ⟨k, hk, rfl, hg, hB, hb⟩ := hrel
    by_cases hlt : k < zs.length
    · rcases h with h | ⟨b1, o1, rfl, c1⟩
      · simp [h] at hlt
      have hb1 : b1 < w.heap.size := World.block_lt_of_cell? w _ (c1 0 (by omega))
      obtain ⟨x, hx0⟩ : ∃ x, x = zs.getD k 0 := ⟨_, rfl⟩
      have g1 : wr.cell? ⟨b1, o1 + k, none⟩ = some (.int .i64 x) := by rw [hx0]; exact (hb.cell (p := ⟨b1, o1 + k, none⟩) hb1).trans (c1 k hlt)
      have HX := Lib.hid hx0
      have HB := Lib.hid hB
      clear c1 hx0 hB
      by_cases h0 : x < 0
      · have hv := Lib.hid (validL_no_elem hlt (.inl (by rw [← HX.out]; exact h0)))
        go_wp2
        go_ret
        exact ⟨ret_bool hv.out.symm, hb⟩
      by_cases h1 : (zs.length : Int) ≤ x
      · have hv := Lib.hid (validL_no_elem hlt (.inr (by rw [← HX.out]; exact h1)))
        go_wp2
        go_ret
        exact ⟨ret_bool hv.out.symm, hb⟩
      obtain ⟨j, rfl⟩ := Int.eq_ofNat_of_zero_le (Int.not_lt.1 h0)
      have hj : j < 7 := by omega
      have hj' : j < zs.length := by omega
      have hc := HB.out.cell j
      rw [mk_get _ _ hj] at hc
      have hf := HB.out.free j
      by_cases hm : (j : Int) ∈ zs.take k
      · rw [decide_eq_true hm] at hc
        have hv := Lib.hid (validL_no_dup hlt (by rw [← HX.out]; exact hm))
        clear hm h0 h1
        go_wp2
        go_ret
        exact ⟨ret_bool hv.out.symm, hb⟩
      · rw [decide_eq_false hm] at hc
        have hv := Lib.hid (goodTo_succ hg.out hlt (by rw [← HX.out]; omega) (by rw [← HX.out]; omega) (by rw [← HX.out]; exact hm))
        clear hm h0 h1
        go_wp2
        go_roundw
        case rel =>
          refine ⟨k + 1, by omega, by go_num, hv, ?_, hb.setCell (Nat.le_refl _) _⟩
          have := HB.out.set j (.bool true)
          rw [mk_set] at this
          rw [mk_congr (t := ((j : Int) :: zs.take k))]
          · exact this
          · intro y
            rw [List.take_succ_eq_append_getElem hlt]
            have e := HX.out
            simp [hlt] at e
            simp [← e, or_comm]
        case measure => simp [intOf]; omega
    · have hke : k = zs.length := by omega
      have hv := Lib.hid (validL_of_good (by rw [← hke]; exact hg.out) (by omega) (by omega))
      clear hke
      have hlt' : zs.length ≤ k := by omega
      go_wp2
      go_ret
      exact ⟨ret_bool hv.out.symm, hb⟩
end Go.Proofs.Ytjnjhfificpbbaa
