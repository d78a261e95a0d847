/- The reference's Mul, Inverse, Identity, Valid, Alike and Commutator, and the statements' own 'is', by their meaning. -/
import Derived.Test.YtcnkegcogepimaaDoorProg
import Derived.Test.YtcnkegcogepimaaDoorBase
import Derived.Test.YtcnkegcogepimaaDoorLists
import Derived.Test.YtcnkegcogepimaaDoorAlg
import Derived.Test.YtcnkegcogepimaaDoorPair
import Derived.Test.YtcnkegcogepimaaDoorSame
import Derived.Deep.QuietTactic
import Derived.BigQuiet
namespace Go.Proofs.YtcnkegcogepimaaDoor
open Go.RowKit

set_option maxHeartbeats 400000 in
theorem refid_blk (n : Nat) (w : World) (hn : n ≤ 1000000) :
    Calls Tryd.prog 31 #[.int .i64 n] w fun e w' => e = .returned (.slice (some ⟨w.heap.size, 0, none⟩) n n) ∧ Blk w' w.heap.size 3 (ints (idL n)) ∧ Below w.heap.size w w' := by
  obtain ⟨i0, hi, hz0, hz1, hz2⟩ := info_parts infoInt
  go_enter Tryd.func31, Tryd.ntmps31
  go_wp2_with (at_make; refine wpList_make_full _ rfl _ _ 23 rfl w.heap.size 3 i0 (.int .i64 0) 1 Tryd.underlying23 hi hz0 hz1 _ _ _ _ n rfl rfl rfl rfl (by rw [hz2]; omega) (by unfold maxLen; omega) (Nat.le_refl _) ?_; intro w1 hown hgrow)
  clear i0 hi hz0 hz1 hz2
  have HB := Lib.hid (blk_of_made hown)
  have hb := Below.of_grown hgrow
  clear hown hgrow
  go_wp2
  go_loopw [4] (fun i wr => ∃ k : Nat, k ≤ n ∧ i = .int .i64 k ∧ Hid (Blk wr w.heap.size 3 (ints ((idL n).take k ++ List.replicate (n - k) 0))) ∧ Below w.heap.size w wr) (fun i _ => n - (intOf i).toNat)
  case atStart => exact ⟨0, Nat.zero_le _, rfl, by rw [List.take_zero]; exact HB, hb⟩
  case round =>
    clear HB hb
    obtain ⟨k, hk, rfl, HB, hb⟩ := hrel
    by_cases hlt : k < n
    · have hf := HB.out.free k
      have hc : ∃ u, wr.cell? ⟨w.heap.size, k, none⟩ = some u := by
        rw [HB.out.cell k, ints_get _ _ (by simp [length_idL]; omega)]; exact ⟨_, rfl⟩
      obtain ⟨u, hc⟩ := hc
      go_wp2
      go_roundw
      case rel =>
        refine ⟨k + 1, by omega, by go_num, Lib.hid ?_, hb.setCell (Nat.le_refl _) _⟩
        have := HB.out.set k (.int .i64 k)
        rw [ints_set] at this
        have e := fill_set (idL n) k (by rw [length_idL]; exact hlt) k (idL_get n k hlt).symm
        rw [length_idL] at e
        rwa [e] at this
      case measure => simp [intOf]; omega
    · have hke : k = n := by omega
      have hO : Blk wr w.heap.size 3 (ints (idL n)) := by
        have := HB.out
        rwa [hke, Nat.sub_self, List.replicate_zero, List.append_nil, List.take_of_length_le (by rw [length_idL]; exact Nat.le_refl _)] at this
      have hlt' : n ≤ k := by omega
      have HO := Lib.hid hO
      clear hke HB hO
      go_wp2
      go_ret
      exact ⟨rfl, HO.out, hb⟩

theorem validL_no_pair {zs : List Int} {i j : Nat} (hj : j < i) (hi : i < zs.length) (h : zs.getD j 0 = zs.getD i 0) : validL zs = false := by
  refine validL_no_dup hi ?_
  rw [← h, List.mem_take_iff_getElem]
  exact ⟨j, by omega, by simp [show j < zs.length by omega]⟩

set_option maxHeartbeats 1000000 in
theorem refvalid_any (v : Value) (zs : List Int) (w : World) (h : Sl w v zs) (hx : zs.length ≤ 1000000) :
    Calls Tryd.prog 7 #[v] w fun e w' => e = .returned (.bool (validL zs)) ∧ ∃ n, w' = w.drewN n := by
  obtain ⟨a, ca, rfl, h⟩ := h
  by_cases hl1 : zs.length < 1
  · have hv := Lib.hid (validL_no_len (.inl hl1))
    go_enter Tryd.func7, Tryd.ntmps7
    go_wp2
    go_ret
    exact ⟨ret_bool hv.out.symm, 0, rfl⟩
  by_cases hl7 : 7 < zs.length
  · have hv := Lib.hid (validL_no_len (.inr hl7))
    go_enter Tryd.func7, Tryd.ntmps7
    go_wp2
    go_ret
    exact ⟨ret_bool hv.out.symm, 0, rfl⟩
  rcases h with h | ⟨b1, o1, rfl, c1⟩
  · simp [h] at hl1
  have C1 := Lib.hid c1
  clear c1
  go_enter Tryd.func7, Tryd.ntmps7
  go_wp2
  go_loopw [3, 4] (fun i _ wr => ∃ k : Nat, k ≤ zs.length ∧ i = .int .i64 k ∧ Hid (goodTo zs k) ∧ ∃ n, wr = w.drewN n) (fun i _ _ => zs.length - (intOf i).toNat)
  case atStart => exact ⟨0, Nat.zero_le _, rfl, Lib.hid (goodTo_zero zs), 0, rfl⟩
  case round =>
    obtain ⟨k, hk, rfl, hg, n, rfl⟩ := hrel
    by_cases hlt : k < zs.length
    · obtain ⟨x, hx0⟩ : ∃ x, x = zs.getD k 0 := ⟨_, rfl⟩
      have g1 : w.cell? ⟨b1, o1 + k, none⟩ = some (.int .i64 x) := by rw [hx0]; exact C1.out k hlt
      have HX := Lib.hid hx0
      clear hx0
      by_cases h0 : x < 0
      · have hv := Lib.hid (validL_no_elem hlt (.inl (by rw [← HX.out]; exact h0)))
        go_wp2
        go_ret
        exact ⟨ret_bool hv.out.symm, n, rfl⟩
      by_cases h1 : (zs.length : Int) ≤ x
      · have hv := Lib.hid (validL_no_elem hlt (.inr (by rw [← HX.out]; exact h1)))
        go_wp2
        go_ret
        exact ⟨ret_bool hv.out.symm, n, rfl⟩
      go_wp2
      go_loopw [4] (fun i wr => ∃ j : Nat, j ≤ k ∧ i = .int .i64 j ∧ Hid (x ∉ zs.take j) ∧ ∃ n, wr = w.drewN n) (fun i _ => k - (intOf i).toNat)
      case atStart => exact ⟨0, Nat.zero_le _, rfl, Lib.hid (by simp), n, rfl⟩
      case round =>
        obtain ⟨j, hj, rfl, hn, m, rfl⟩ := hrel
        by_cases hjk : j < k
        · obtain ⟨y, hy0⟩ : ∃ y, y = zs.getD j 0 := ⟨_, rfl⟩
          have g2 : w.cell? ⟨b1, o1 + j, none⟩ = some (.int .i64 y) := by rw [hy0]; exact C1.out j (by omega)
          have HY := Lib.hid hy0
          have hjl : j < zs.length := by omega
          clear hy0
          by_cases hxy : y = x
          · have hb : (y == x) = true := by simp [hxy]
            have hv := Lib.hid (validL_no_pair hjk hlt (by rw [← HX.out, ← HY.out]; exact hxy))
            clear hxy
            go_wp2
            go_quiet (fail)
            go_wp2
            go_ret
            exact ⟨ret_bool hv.out.symm, m + nq, by simp⟩
          · have hb : (y == x) = false := by simp [hxy]
            have hv := Lib.hid hxy
            clear hxy
            go_wp2
            go_quiet (fail)
            go_wp2
            go_roundw
            case rel =>
              refine ⟨j + 1, by omega, by go_num, Lib.hid ?_, m + nq, by simp⟩
              rw [List.take_succ_eq_append_getElem hjl]
              intro hm
              rcases List.mem_append.1 hm with hm | hm
              · exact hn.out hm
              · have e := HY.out
                simp [hjl] at e
                simp [← e] at hm
                exact hv.out hm.symm
            case measure => simp [intOf]; omega
        · have hjk' : k ≤ j := by omega
          have hje : j = k := by omega
          have hv := Lib.hid (goodTo_succ hg.out hlt (by rw [← HX.out]; omega) (by rw [← HX.out]; omega) (by rw [← HX.out, ← hje]; exact hn.out))
          clear hje
          go_wp2
          go_roundw
          case rel => exact ⟨k + 1, by omega, by go_num, hv, m, rfl⟩
          case measure => simp [intOf]; omega
    · have hke : k = zs.length := by omega
      have hv := Lib.hid (validL_of_good (by rw [← hke]; exact hg.out) (by omega) (by omega))
      clear hke
      have hlt' : zs.length ≤ k := by omega
      go_wp2
      go_ret
      exact ⟨ret_bool hv.out.symm, n, rfl⟩

theorem Sl.drewN {w : World} {v : Value} {zs : List Int} (h : Sl w v zs) (n : Nat) : Sl (w.drewN n) v zs := h
theorem Ow.drewN {B : Nat} {w : World} {v : Value} {zs : List Int} (h : Ow B w v zs) (n : Nat) : Ow B (w.drewN n) v zs := h

set_option maxHeartbeats 400000 in
/-- 'is' at no error: the permutations are equal -/
theorem is_ok (v1 v2 : Value) (p : List Int) (w : World) (h1 : Sl w v1 p) (h2 : Sl w v2 p) (hp : p.length ≤ 1000000) :
    Calls Tryd.prog 13 #[v1, .int .i64 0, v2, .int .i64 0] w fun e w' => e = .returned (.bool true) ∧ ∃ n, w' = w.drewN n := by
  have H1 := Lib.hid h1
  have H2 := Lib.hid h2
  obtain ⟨a, ca, rfl, _⟩ := h1
  obtain ⟨b, cb, rfl, _⟩ := h2
  go_enter Tryd.func13, Tryd.ntmps13
  go_wp2_with fail
  refine (same_any _ _ p p _ H1.out H2.out hp hp).mono ?_
  rintro e w2 ⟨rfl, n, rfl⟩
  rw [decide_eq_true rfl]
  go_wp2
  go_ret
  exact ⟨rfl, n, rfl⟩

set_option maxHeartbeats 400000 in
/-- 'is' at an error: the permutation is empty -/
theorem is_bad (v1 v2 : Value) (c : Int) (w : World) (h1 : Sl w v1 []) (hc : c ≠ 0) :
    Calls Tryd.prog 13 #[v1, .int .i64 c, v2, .int .i64 c] w fun e w' => e = .returned (.bool true) ∧ w = w' := by
  obtain ⟨a, ca, rfl, _⟩ := h1
  have hb : (c != 0) = true := by rw [bne_iff_ne]; exact hc
  have hb2 : (c == c) = true := by simp
  clear hc
  go_enter Tryd.func13, Tryd.ntmps13
  go_wp2
  go_ret
  exact ⟨rfl, rfl⟩

/-- a slice of slices: its cells hold the values vs, each of them a slice -/
def Sls (w : World) (v : Value) (vs : List Value) : Prop :=
  ∃ (b off cap : Nat), v = .slice (some ⟨b, off, none⟩) vs.length cap ∧ ∀ i, i < vs.length → w.cell? ⟨b, off + i, none⟩ = some (vs.getD i undef) ∧ ∃ a n c, vs.getD i undef = .slice a n c

def shortB (vs : List Value) : Bool := decide (∀ i, i < vs.length → lenOf (vs.getD i undef) ≤ 100)
theorem shortB_yes {vs : List Value} (h : ∀ i, i < vs.length → lenOf (vs.getD i undef) ≤ 100) : shortB vs = true := decide_eq_true h
theorem shortB_no {vs : List Value} {i : Nat} (hi : i < vs.length) (h : ¬ lenOf (vs.getD i undef) ≤ 100) : shortB vs = false := decide_eq_false (fun hall => h (hall i hi))

set_option maxHeartbeats 400000 in
theorem short_any (v : Value) (vs : List Value) (w : World) (h : Sls w v vs) (hl : vs.length ≤ 1000) :
    Calls Tryd.prog 5 #[v] w fun e w' => e = .returned (.bool (shortB vs)) ∧ w = w' := by
  obtain ⟨b, off, cap, rfl, hc⟩ := h
  have HC := Lib.hid hc
  clear hc
  go_enter Tryd.func5, Tryd.ntmps5
  go_wp2
  go_loop [3] (fun i => ∃ k : Nat, k ≤ vs.length ∧ i = .int .i64 k ∧ Hid (∀ i, i < k → lenOf (vs.getD i undef) ≤ 100)) (fun i => vs.length - (intOf i).toNat)
  case atStart => exact ⟨0, Nat.zero_le _, rfl, Lib.hid (fun i hi => by omega)⟩
  case round =>
    obtain ⟨k, hk, rfl, hs⟩ := hrel
    by_cases hlt : k < vs.length
    · obtain ⟨g, a, n, c, e⟩ := HC.out k hlt
      rw [e] at g
      have HE := Lib.hid e
      clear e
      by_cases h1 : n ≤ 100
      · go_wp2
        go_round
        case rel =>
          refine ⟨k + 1, by omega, by go_num, Lib.hid (fun i hi => ?_)⟩
          by_cases e : i = k
          · subst e; rw [HE.out]; exact h1
          · exact hs.out i (by omega)
        case measure => simp [intOf]; omega
      · have hno := Lib.hid (shortB_no hlt (by rw [HE.out]; exact h1))
        go_wp2
        go_ret
        exact ⟨ret_bool hno.out.symm, rfl⟩
    · have hlt' : vs.length ≤ k := by omega
      have hyes := Lib.hid (shortB_yes (vs := vs) (fun i hi => hs.out i (by omega)))
      go_wp2
      go_ret
      exact ⟨ret_bool hyes.out.symm, rfl⟩

end Go.Proofs.YtcnkegcogepimaaDoor
