/- perm.Unrank returns the permutation with the given rank, or the error. -/
import Derived.Test.YtcnkegcogepimaaDoorProg
import Derived.Test.YtcnkegcogepimaaDoorBase
import Derived.Test.YtcnkegcogepimaaDoorLists
import Derived.Test.YtcnkegcogepimaaDoorMul
import Derived.Test.YtcnkegcogepimaaDoorNums
import Derived.Test.YtcnkegcogepimaaDoorRange
import Derived.Test.YtcnkegcogepimaaDoorDel
import Derived.Maps.AppendAt
namespace Go.Proofs.YtcnkegcogepimaaDoor
open Go.RowKit

/-- what is still to come, with the points of rest, at the rank r -/
def unr : Nat → List Int → Nat → List Int
  | 0, _, _ => []
  | k + 1, rest, r => rest.getD (r / fact k) 0 :: unr k (rest.eraseIdx (r / fact k)) (r % fact k)
def unrL (n r : Nat) : List Int := unr n (idL n) r
theorem length_unr : ∀ (k : Nat) (rest : List Int) (r : Nat), (unr k rest r).length = k
  | 0, _, _ => rfl
  | k + 1, _, _ => by simp [unr, length_unr k]

set_option maxHeartbeats 1000000 in
theorem unrank_ok (n r0 : Nat) (w : World) (h1 : 1 ≤ n) (h7 : n ≤ 7) (hr : r0 < fact n) :
    Calls Tryd.prog 19 #[.int .i64 n, .int .i64 r0] w fun e w' => ∃ v, e = .returned (.tuple #[v, .int .i64 0]) ∧ Ow w.heap.size w' v (unrL n r0) ∧ Below w.heap.size w w' := by
  obtain ⟨i0, hi, hz0, hz1, hz2⟩ := info_parts infoInt
  have hf := fact_le n h7
  have HR0 := Lib.hid hr
  have hr' : (r0 : Int) < (fact n : Int) := by omega
  go_enter Tryd.func19, Tryd.ntmps19
  go_wp2_with (first | (go_at_call 35; refine (factorial_any n _ h7).mono ?_; rintro e w' ⟨rfl, rfl⟩) | (go_at_call 36; refine (identity_blk n _ (by omega)).mono ?_; rintro e w1 ⟨rfl, hB, hb⟩) | (at_make; refine wpList_make_own _ rfl _ _ 23 rfl (w.heap.size + 1) 3 i0 (.int .i64 0) 1 Tryd.underlying23 hi hz0 hz1 _ _ _ n rfl rfl rfl (by rw [hz2]; omega) (by unfold maxLen; omega) (by have := hB.lt; omega) ?_; intro w2 hown hgrow))
  have hB2 : Blk w2 w.heap.size 3 (ints (idL n)) := hB.below (Below.of_grown hgrow)
  have hb2 : Below w.heap.size w w2 := hb.grown hgrow hb.size (fun k e => by cases e)
  have hO0 : Ow (w.heap.size + 1) w2 (.slice (some ⟨w1.heap.size, 0, none⟩) 0 n) [] := hown
  clear hB hown hgrow hr hr' hf
  go_loopw [1, 6, 7] (fun rv sv v wr => ∃ (m r : Nat) (P R J : List Int), m ≤ n ∧ rv = .int .i64 r ∧ sv = .slice (some ⟨w.heap.size, 0, none⟩) m n ∧ Hid (R.length = m ∧ (R ++ J).length = n ∧ P.length + m = n) ∧ Hid (Blk wr w.heap.size 3 (ints (R ++ J))) ∧ Hid (Ow (w.heap.size + 1) wr v P) ∧ Hid (r < fact m) ∧ Hid (P ++ unr m R r = unrL n r0) ∧ Below w.heap.size w wr) (fun _ sv _ _ => lenOf sv)
  case atStart => exact ⟨n, r0, [], idL n, [], Nat.le_refl _, rfl, rfl, Lib.hid ⟨length_idL n, by simp [length_idL], by simp⟩, Lib.hid (by simpa using hB2), Lib.hid hO0, HR0, Lib.hid rfl, hb2⟩
  case round =>
    clear hB2 hb2 hO0
    obtain ⟨m, r, P, R, J, hm, rfl, rfl, hl, hB, hO, hr, hU, hb⟩ := hrel
    rcases m with _ | j
    · have hO2 : Ow w.heap.size wr u7 (unrL n r0) := by
        have := hU.out
        simp only [unr, List.append_nil] at this
        rw [← this]
        exact hO.out.mono (by omega)
      have HO2 := Lib.hid hO2
      clear hO2
      go_wp2
      go_ret2
      exact ⟨_, rfl, HO2.out, hb⟩
    · have hj7 : j ≤ 7 := by omega
      obtain ⟨f1, f2⟩ := fact_le j hj7
      have hrf := hr.out
      rw [fact] at hrf
      obtain ⟨f, hf⟩ : ∃ f, f = fact j := ⟨_, rfl⟩
      rw [← hf] at f1 f2 hrf
      have HF := Lib.hid hf
      have hd : r / f < j + 1 := (Nat.div_lt_iff_lt_mul f1).2 hrf
      have he : r % f < f := Nat.mod_lt _ f1
      obtain ⟨d, hd0⟩ : ∃ d, d = r / f := ⟨_, rfl⟩
      obtain ⟨e, he0⟩ : ∃ e, e = r % f := ⟨_, rfl⟩
      have q1 : (r : Int) / (f : Int) = (d : Int) := by rw [hd0]; exact (Int.natCast_ediv r f).symm
      have q2 : (r : Int) % (f : Int) = (e : Int) := by rw [he0]; exact (Int.natCast_emod r f).symm
      rw [← hd0] at hd
      rw [← he0] at he
      have HD := Lib.hid hd0
      have HE := Lib.hid he0
      have hrlt : r < 1000000 := by
        have : (j + 1) * f ≤ 8 * 5040 := Nat.mul_le_mul (by omega) f2
        omega
      clear hf hd0 he0 hrf
      obtain ⟨x, hx0⟩ : ∃ x, x = (R ++ J).getD d 0 := ⟨_, rfl⟩
      have g1 : wr.cell? ⟨w.heap.size, d, none⟩ = some (.int .i64 x) := by
        rw [hB.out.cell, ints_get _ _ (by have := hl.out.2.1; omega), hx0]
      have HX := Lib.hid hx0
      clear hx0
      have hO' := hO.out
      unfold Ow at hO'
      have HLP : P.length ≤ 7 := by have := hl.out.2.2; omega
      go_wp2_with (first | (go_at_call 35; refine (factorial_any j _ hj7).mono ?_; rintro e w' ⟨rfl, rfl⟩; rw [← HF.out]) | (at_builtin; refine wpList_append_own _ rfl _ _ 23 rfl (w.heap.size + 1) 3 i0 (.int .i64 0) 1 8 Tryd.underlying23 hi hz0 hz1 hz2 rfl (by decide) _ _ _ rfl (hO'.alloc _) ⟨wr.heap.size, 0, none⟩ 1 1 [.int .i64 x] rfl rfl (cell_one_new _ _ _) (by simp [Value.oneCell']) (by unfold maxLen; omega) (by omega) (by have := hB.out.lt; simp; omega) ?_; intro v' w1 hown' hgrow _))
      have hB1 : Blk w1 w.heap.size 3 (ints (R ++ J)) :=
        (hgrow.block w.heap.size (by have := hB.out.lt; simp; omega) (fun h => by have := (hO'.lt _ h.symm).1; omega)).trans (hB.out.alloc _)
      have hb1 : Below w.heap.size w w1 := (hb.alloc hb.size _).grown hgrow (by have := hb.size; simp; omega) (fun r h => by have := (hO'.lt r h).1; omega)
      have HO1 : Hid (Ow (w.heap.size + 1) w1 v' (P ++ [x])) := Lib.hid (by unfold Ow; simpa using hown')
      have HB1 := Lib.hid hB1
      clear hB1 hown' hgrow hO' g1
      refine (delete_any w.heap.size (j + 1) n d (R ++ J) w1 HB1.out hl.out.2.1 hd hm (by omega)).mono ?_
      rintro e' w3 ⟨rfl, hB3, ht3⟩
      have HB3 : Hid (Blk w3 w.heap.size 3 (ints (R.eraseIdx d ++ (0 :: J)))) := Lib.hid (by
        have e1 : (R ++ J).take d = R.take d := List.take_append_of_le_length (by have := hl.out.1; omega)
        have e2 : (R ++ J).take (j + 1) = R := by rw [← hl.out.1]; exact List.take_left
        have e3 : (R ++ J).drop (j + 1) = J := by rw [← hl.out.1]; exact List.drop_left
        rw [e1, e2, e3] at hB3
        rw [List.eraseIdx_eq_take_drop_succ]
        simpa using hB3)
      have HO3 : Hid (Ow (w.heap.size + 1) w3 v' (P ++ [x])) := Lib.hid (HO1.out.turns ht3 (fun r h => by have := (HO1.out.lt r h).1; omega))
      have HT := Lib.hid (below_turns hb1 ht3 (fun b hb => by omega) (Nat.le_refl _))
      clear hB3 ht3
      go_wp2
      go_roundw
      case rel =>
        refine ⟨j, e, P ++ [x], R.eraseIdx d, 0 :: J, by omega, rfl, rfl, Lib.hid ?_, HB3, HO3, Lib.hid ?_, Lib.hid ?_, HT.out⟩
        · have := hl.out
          refine ⟨?_, ?_, ?_⟩
          · rw [List.length_eraseIdx, if_pos (by omega)]; omega
          · simp only [List.length_append, List.length_cons] at this ⊢
            rw [List.length_eraseIdx, if_pos (by omega)]; omega
          · simp; omega
        · rw [← HF.out]; exact he
        · have hu := hU.out
          rw [unr, ← HF.out, ← HD.out, ← HE.out] at hu
          have ex : x = R.getD d 0 := by
            rw [HX.out]
            have := hl.out.1
            simp [show d < R.length by omega, List.getElem?_append]
          rw [← ex] at hu
          simpa using hu
      case measure => simp [lenOf]
end Go.Proofs.YtcnkegcogepimaaDoor
