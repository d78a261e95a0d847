/- The reference's Mul, Inverse, Identity, Valid, Alike and Commutator, and the statements' own 'is', by their meaning. -/
import Derived.Test.YtjnjhfificpbbaaProg
import Derived.Test.YtjnjhfificpbbaaBase
import Derived.Test.YtjnjhfificpbbaaLists
import Derived.Test.YtjnjhfificpbbaaAlg
import Derived.Test.YtjnjhfificpbbaaPair
import Derived.Test.YtjnjhfificpbbaaSame
import Derived.Deep.QuietTactic
import Derived.BigQuiet
namespace Go.Proofs.Ytjnjhfificpbbaa
open Go.RowKit

set_option maxHeartbeats 400000 in
theorem refmul_any (v1 v2 : Value) (p q : List Int) (w : World) (h1 : Sl w v1 p) (h2 : Sl w v2 q) (hp : p.length ≤ 1000000) (hq : q.length ≤ 1000000) (hr : inR p q.length) :
    Calls Try.prog 40 #[v1, v2] w fun e w' => ∃ v, e = .returned v ∧ Ow w.heap.size w' v (mulL p q) ∧ Below w.heap.size w w' := by
  obtain ⟨a, ca, rfl, h1⟩ := h1
  obtain ⟨b, cb, rfl, h2⟩ := h2
  obtain ⟨i0, hi, hz0, hz1, hz2⟩ := info_parts infoInt
  go_enter Try.func40, Try.ntmps40
  go_wp2_with (at_make; refine wpList_make_full _ rfl _ _ 32 rfl w.heap.size 3 i0 (.int .i64 0) 1 Try.underlying32 hi hz0 hz1 _ _ _ _ p.length rfl rfl rfl rfl (by rw [hz2]; omega) (by unfold maxLen; omega) (Nat.le_refl _) ?_; intro w1 hown hgrow)
  clear i0 hi hz0 hz1 hz2
  have HB := Lib.hid (blk_of_made hown)
  have hb := Below.of_grown hgrow
  have hsz : w.heap.size ≤ w1.heap.size := hb.size
  clear hown hgrow
  go_wp2
  go_loopw [6] (fun i wr => ∃ k : Nat, k ≤ p.length ∧ i = .int .i64 k ∧ Hid (Blk wr w.heap.size 3 (ints ((mulL p q).take k ++ List.replicate (p.length - k) 0))) ∧ Below w.heap.size w wr) (fun i _ => p.length - (intOf i).toNat)
  case atStart => exact ⟨0, Nat.zero_le _, rfl, by rw [List.take_zero]; exact HB, hb⟩
  case round =>
    clear HB hb hsz
    obtain ⟨k, hk, rfl, HB, hb⟩ := hrel
    by_cases hlt : k < p.length
    · rcases h1 with h1 | ⟨b1, o1, rfl, c1⟩
      · simp [h1] at hlt
      obtain ⟨r0, r1⟩ := hr k hlt
      have hb1 : b1 < w.heap.size := World.block_lt_of_cell? w _ (c1 0 (by omega))
      obtain ⟨x, hx0⟩ : ∃ x, x = p.getD k 0 := ⟨_, rfl⟩
      have g1 : wr.cell? ⟨b1, o1 + k, none⟩ = some (.int .i64 x) := by rw [hx0]; exact (hb.cell (p := ⟨b1, o1 + k, none⟩) hb1).trans (c1 k hlt)
      rw [← hx0] at r0 r1
      obtain ⟨j, rfl⟩ := Int.eq_ofNat_of_zero_le r0
      have hj : j < q.length := by omega
      rcases h2 with h2 | ⟨b2, o2, rfl, c2⟩
      · simp [h2] at hj
      have hb2 : b2 < w.heap.size := World.block_lt_of_cell? w _ (c2 0 (by omega))
      obtain ⟨y, hy0⟩ : ∃ y, y = q.getD j 0 := ⟨_, rfl⟩
      have g2 : wr.cell? ⟨b2, o2 + j, none⟩ = some (.int .i64 y) := by rw [hy0]; exact (hb.cell (p := ⟨b2, o2 + j, none⟩) hb2).trans (c2 j hj)
      have hy : y = (mulL p q).getD k 0 := by rw [mulL_get p q k hlt, ← hx0, hy0]; rfl
      have HY := Lib.hid hy
      have hf := HB.out.free k
      have hc : ∃ u, wr.cell? ⟨w.heap.size, k, none⟩ = some u := by
        rw [HB.out.cell k, ints_get _ _ (by simp [length_mulL]; omega)]; exact ⟨_, rfl⟩
      obtain ⟨u, hc⟩ := hc
      clear hx0 hy0 hy c1 c2 r0 r1
      go_wp2
      go_roundw
      case rel =>
        refine ⟨k + 1, by omega, by go_num, Lib.hid ?_, hb.setCell (Nat.le_refl _) _⟩
        have := HB.out.set k (.int .i64 y)
        rw [ints_set] at this
        have e := fill_set (mulL p q) k (by rw [length_mulL]; exact hlt) y HY.out
        rw [length_mulL] at e
        rwa [e] at this
      case measure => simp [intOf]; omega
    · have hke : k = p.length := by omega
      have hO : Ow w.heap.size wr (.slice (some ⟨w.heap.size, 0, none⟩) p.length p.length) (mulL p q) := by
        have := HB.out
        rw [hke, Nat.sub_self, List.replicate_zero, List.append_nil, List.take_of_length_le (by rw [length_mulL]; exact Nat.le_refl _)] at this
        exact Ow.of_blk this (Nat.le_refl _) (by rw [length_mulL]; exact hp) _ (length_mulL p q).symm
      have hlt' : p.length ≤ k := by omega
      clear hke HB
      go_wp2
      go_ret
      exact ⟨_, rfl, hO, hb⟩

set_option maxHeartbeats 400000 in
theorem refinv_any (v1 : Value) (p : List Int) (w : World) (h1 : Sl w v1 p) (hp : p.length ≤ 1000000) (hr : inR p p.length) :
    Calls Try.prog 73 #[v1] w fun e w' => ∃ v, e = .returned v ∧ Ow w.heap.size w' v (invL p) ∧ Below w.heap.size w w' := by
  obtain ⟨a, ca, rfl, h1⟩ := h1
  obtain ⟨i0, hi, hz0, hz1, hz2⟩ := info_parts infoInt
  go_enter Try.func73, Try.ntmps73
  go_wp2_with (at_make; refine wpList_make_full _ rfl _ _ 32 rfl w.heap.size 3 i0 (.int .i64 0) 1 Try.underlying32 hi hz0 hz1 _ _ _ _ p.length rfl rfl rfl rfl (by rw [hz2]; omega) (by unfold maxLen; omega) (Nat.le_refl _) ?_; intro w1 hown hgrow)
  clear i0 hi hz0 hz1 hz2
  have HB := Lib.hid (blk_of_made hown)
  have hb := Below.of_grown hgrow
  clear hown hgrow
  go_wp2
  go_loopw [4] (fun i wr => ∃ k : Nat, k ≤ p.length ∧ i = .int .i64 k ∧ Hid (Blk wr w.heap.size 3 (ints (invTo p k))) ∧ Below w.heap.size w wr) (fun i _ => p.length - (intOf i).toNat)
  case atStart => exact ⟨0, Nat.zero_le _, rfl, HB, hb⟩
  case round =>
    clear HB hb
    obtain ⟨k, hk, rfl, HB, hb⟩ := hrel
    by_cases hlt : k < p.length
    · rcases h1 with h1 | ⟨b1, o1, rfl, c1⟩
      · simp [h1] at hlt
      obtain ⟨r0, r1⟩ := hr k hlt
      have hb1 : b1 < w.heap.size := World.block_lt_of_cell? w _ (c1 0 (by omega))
      obtain ⟨x, hx0⟩ : ∃ x, x = p.getD k 0 := ⟨_, rfl⟩
      have g1 : wr.cell? ⟨b1, o1 + k, none⟩ = some (.int .i64 x) := by rw [hx0]; exact (hb.cell (p := ⟨b1, o1 + k, none⟩) hb1).trans (c1 k hlt)
      rw [← hx0] at r0 r1
      obtain ⟨j, rfl⟩ := Int.eq_ofNat_of_zero_le r0
      have hj : j < p.length := by omega
      have HX := Lib.hid hx0
      have hf := HB.out.free j
      have hc : ∃ u, wr.cell? ⟨w.heap.size, j, none⟩ = some u := by
        rw [HB.out.cell j, ints_get _ _ (by rw [length_invTo]; exact hj)]; exact ⟨_, rfl⟩
      obtain ⟨u, hc⟩ := hc
      clear hx0 c1 r0 r1
      go_wp2
      go_roundw
      case rel =>
        refine ⟨k + 1, by omega, by go_num, Lib.hid ?_, hb.setCell (Nat.le_refl _) _⟩
        have := HB.out.set j (.int .i64 k)
        rw [ints_set] at this
        rw [invTo, ← HX.out]
        exact this
      case measure => simp [intOf]; omega
    · have hke : k = p.length := by omega
      have hO : Ow w.heap.size wr (.slice (some ⟨w.heap.size, 0, none⟩) p.length p.length) (invL p) := by
        have := HB.out
        rw [hke] at this
        exact Ow.of_blk this (Nat.le_refl _) (by rw [length_invTo]; exact hp) _ (length_invL p).symm
      have hlt' : p.length ≤ k := by omega
      clear hke HB
      go_wp2
      go_ret
      exact ⟨_, rfl, hO, hb⟩

set_option maxHeartbeats 400000 in
theorem refid_blk (n : Nat) (w : World) (hn : n ≤ 1000000) :
    Calls Try.prog 39 #[.int .i64 n] w fun e w' => e = .returned (.slice (some ⟨w.heap.size, 0, none⟩) n n) ∧ Blk w' w.heap.size 3 (ints (idL n)) ∧ Below w.heap.size w w' := by
  obtain ⟨i0, hi, hz0, hz1, hz2⟩ := info_parts infoInt
  go_enter Try.func39, Try.ntmps39
  go_wp2_with (at_make; refine wpList_make_full _ rfl _ _ 32 rfl w.heap.size 3 i0 (.int .i64 0) 1 Try.underlying32 hi hz0 hz1 _ _ _ _ n rfl rfl rfl rfl (by rw [hz2]; omega) (by unfold maxLen; omega) (Nat.le_refl _) ?_; intro w1 hown hgrow)
  clear i0 hi hz0 hz1 hz2
  have HB := Lib.hid (blk_of_made hown)
  have hb := Below.of_grown hgrow
  clear hown hgrow
  go_wp2
  go_loopw [4] (fun i wr => ∃ k : Nat, k ≤ n ∧ i = .int .i64 k ∧ Hid (Blk wr w.heap.size 3 (ints ((idL n).take k ++ List.replicate (n - k) 0))) ∧ Below w.heap.size w wr) (fun i _ => n - (intOf i).toNat)
  case atStart => exact ⟨0, Nat.zero_le _, rfl, by rw [List.take_zero]; exact HB, hb⟩
  case round =>
    clear HB hb
    obtain ⟨k, hk, rfl, HB, hb⟩ := hrel
    by_cases hlt : k < n
    · have hf := HB.out.free k
      have hc : ∃ u, wr.cell? ⟨w.heap.size, k, none⟩ = some u := by
        rw [HB.out.cell k, ints_get _ _ (by simp [length_idL]; omega)]; exact ⟨_, rfl⟩
      obtain ⟨u, hc⟩ := hc
      go_wp2
      go_roundw
      case rel =>
        refine ⟨k + 1, by omega, by go_num, Lib.hid ?_, hb.setCell (Nat.le_refl _) _⟩
        have := HB.out.set k (.int .i64 k)
        rw [ints_set] at this
        have e := fill_set (idL n) k (by rw [length_idL]; exact hlt) k (idL_get n k hlt).symm
        rw [length_idL] at e
        rwa [e] at this
      case measure => simp [intOf]; omega
    · have hke : k = n := by omega
      have hO : Blk wr w.heap.size 3 (ints (idL n)) := by
        have := HB.out
        rwa [hke, Nat.sub_self, List.replicate_zero, List.append_nil, List.take_of_length_le (by rw [length_idL]; exact Nat.le_refl _)] at this
      have hlt' : n ≤ k := by omega
      have HO := Lib.hid hO
      clear hke HB hO
      go_wp2
      go_ret
      exact ⟨rfl, HO.out, hb⟩

theorem validL_no_pair {zs : List Int} {i j : Nat} (hj : j < i) (hi : i < zs.length) (h : zs.getD j 0 = zs.getD i 0) : validL zs = false := by
  refine validL_no_dup hi ?_
  rw [← h, List.mem_take_iff_getElem]
  exact ⟨j, by omega, by simp [show j < zs.length by omega]⟩

set_option maxHeartbeats 1000000 in
theorem refvalid_any (v : Value) (zs : List Int) (w : World) (h : Sl w v zs) (hx : zs.length ≤ 1000000) :
    Calls Try.prog 36 #[v] w fun e w' => e = .returned (.bool (validL zs)) ∧ ∃ n, w' = w.drewN n := by
  obtain ⟨a, ca, rfl, h⟩ := h
  by_cases hl1 : zs.length < 1
  · have hv := Lib.hid (validL_no_len (.inl hl1))
    go_enter Try.func36, Try.ntmps36
    go_wp2
    go_ret
    exact ⟨ret_bool hv.out.symm, 0, rfl⟩
  by_cases hl7 : 7 < zs.length
  · have hv := Lib.hid (validL_no_len (.inr hl7))
    go_enter Try.func36, Try.ntmps36
    go_wp2
    go_ret
    exact ⟨ret_bool hv.out.symm, 0, rfl⟩
  rcases h with h | ⟨b1, o1, rfl, c1⟩
  · simp [h] at hl1
  have C1 := Lib.hid c1
  clear c1
  go_enter Try.func36, Try.ntmps36
  go_wp2
  go_loopw [3, 4] (fun i _ wr => ∃ k : Nat, k ≤ zs.length ∧ i = .int .i64 k ∧ Hid (goodTo zs k) ∧ ∃ n, wr = w.drewN n) (fun i _ _ => zs.length - (intOf i).toNat)
  case atStart => exact ⟨0, Nat.zero_le _, rfl, Lib.hid (goodTo_zero zs), 0, rfl⟩
  case round =>
    obtain ⟨k, hk, rfl, hg, n, rfl⟩ := hrel
    by_cases hlt : k < zs.length
    · obtain ⟨x, hx0⟩ : ∃ x, x = zs.getD k 0 := ⟨_, rfl⟩
      have g1 : w.cell? ⟨b1, o1 + k, none⟩ = some (.int .i64 x) := by rw [hx0]; exact C1.out k hlt
      have HX := Lib.hid hx0
      clear hx0
      by_cases h0 : x < 0
      · have hv := Lib.hid (validL_no_elem hlt (.inl (by rw [← HX.out]; exact h0)))
        go_wp2
        go_ret
        exact ⟨ret_bool hv.out.symm, n, rfl⟩
      by_cases h1 : (zs.length : Int) ≤ x
      · have hv := Lib.hid (validL_no_elem hlt (.inr (by rw [← HX.out]; exact h1)))
        go_wp2
        go_ret
        exact ⟨ret_bool hv.out.symm, n, rfl⟩
      go_wp2
      go_loopw [4] (fun i wr => ∃ j : Nat, j ≤ k ∧ i = .int .i64 j ∧ Hid (x ∉ zs.take j) ∧ ∃ n, wr = w.drewN n) (fun i _ => k - (intOf i).toNat)
      case atStart => exact ⟨0, Nat.zero_le _, rfl, Lib.hid (by simp), n, rfl⟩
      case round =>
        obtain ⟨j, hj, rfl, hn, m, rfl⟩ := hrel
        by_cases hjk : j < k
        · obtain ⟨y, hy0⟩ : ∃ y, y = zs.getD j 0 := ⟨_, rfl⟩
          have g2 : w.cell? ⟨b1, o1 + j, none⟩ = some (.int .i64 y) := by rw [hy0]; exact C1.out j (by omega)
          have HY := Lib.hid hy0
          have hjl : j < zs.length := by omega
          clear hy0
          by_cases hxy : y = x
          · have hb : (y == x) = true := by simp [hxy]
            have hv := Lib.hid (validL_no_pair hjk hlt (by rw [← HX.out, ← HY.out]; exact hxy))
            clear hxy
            go_wp2
            go_quiet (fail)
            go_wp2
            go_ret
            exact ⟨ret_bool hv.out.symm, m + nq, by simp⟩
          · have hb : (y == x) = false := by simp [hxy]
            have hv := Lib.hid hxy
            clear hxy
            go_wp2
            go_quiet (fail)
            go_wp2
            go_roundw
            case rel =>
              refine ⟨j + 1, by omega, by go_num, Lib.hid ?_, m + nq, by simp⟩
              rw [List.take_succ_eq_append_getElem hjl]
              intro hm
              rcases List.mem_append.1 hm with hm | hm
              · exact hn.out hm
              · have e := HY.out
                simp [hjl] at e
                simp [← e] at hm
                exact hv.out hm.symm
            case measure => simp [intOf]; omega
        · have hjk' : k ≤ j := by omega
          have hje : j = k := by omega
          have hv := Lib.hid (goodTo_succ hg.out hlt (by rw [← HX.out]; omega) (by rw [← HX.out]; omega) (by rw [← HX.out, ← hje]; exact hn.out))
          clear hje
          go_wp2
          go_roundw
          case rel => exact ⟨k + 1, by omega, by go_num, hv, m, rfl⟩
          case measure => simp [intOf]; omega
    · have hke : k = zs.length := by omega
      have hv := Lib.hid (validL_of_good (by rw [← hke]; exact hg.out) (by omega) (by omega))
      clear hke
      have hlt' : zs.length ≤ k := by omega
      go_wp2
      go_ret
      exact ⟨ret_bool hv.out.symm, n, rfl⟩

theorem Sl.drewN {w : World} {v : Value} {zs : List Int} (h : Sl w v zs) (n : Nat) : Sl (w.drewN n) v zs := h
theorem Ow.drewN {B : Nat} {w : World} {v : Value} {zs : List Int} (h : Ow B w v zs) (n : Nat) : Ow B (w.drewN n) v zs := h

set_option maxHeartbeats 400000 in
theorem refalike_any (v1 v2 : Value) (p q : List Int) (w : World) (h1 : Sl w v1 p) (h2 : Sl w v2 q) (hp : p.length ≤ 1000000) (hq : q.length ≤ 1000000) :
    Calls Try.prog 49 #[v1, v2] w fun e w' => e = .returned (.int .i64 (errP p q)) ∧ ∃ n, w' = w.drewN n := by
  have H1 := Lib.hid h1
  have H2 := Lib.hid h2
  obtain ⟨a, ca, rfl, _⟩ := h1
  obtain ⟨b, cb, rfl, _⟩ := h2
  rcases hv1 : validL p with _ | _
  · have e : errP p q = 1 := by unfold errP; rw [if_neg (by simp [hv1])]
    have HE := Lib.hid e
    have HV1 := Lib.hid hv1
    clear e hv1
    go_enter Try.func49, Try.ntmps49
    go_wp2_with (go_at_call 36; refine (refvalid_any _ p _ H1.out hp).mono ?_; rintro e w1 ⟨rfl, n1, rfl⟩; rw [HV1.out])
    go_ret
    exact ⟨ret_int HE.out.symm, n1, rfl⟩
  rcases hv2 : validL q with _ | _
  · have e : errP p q = 1 := by unfold errP; rw [if_neg (by simp [hv2])]
    have HE := Lib.hid e
    have HV1 := Lib.hid hv1
    have HV2 := Lib.hid hv2
    clear e hv1 hv2
    go_enter Try.func49, Try.ntmps49
    go_wp2_with fail
    refine (refvalid_any _ p _ H1.out hp).mono ?_
    rintro e w1 ⟨rfl, n1, rfl⟩
    rw [HV1.out]
    go_wp2_with fail
    refine (refvalid_any _ q _ (H2.out.drewN n1) hq).mono ?_
    rintro e w2 ⟨rfl, n2, rfl⟩
    rw [HV2.out]
    go_wp2
    go_ret
    exact ⟨ret_int HE.out.symm, n1 + n2, by simp⟩
  by_cases hl : p.length = q.length
  · have HE := Lib.hid (errP_ok hv1 hv2 hl)
    have hlb : ((p.length : Int) != (q.length : Int)) = false := by simp [hl]
    have HV1 := Lib.hid hv1
    have HV2 := Lib.hid hv2
    clear hl hv1 hv2
    go_enter Try.func49, Try.ntmps49
    go_wp2_with fail
    refine (refvalid_any _ p _ H1.out hp).mono ?_
    rintro e w1 ⟨rfl, n1, rfl⟩
    rw [HV1.out]
    go_wp2_with fail
    refine (refvalid_any _ q _ (H2.out.drewN n1) hq).mono ?_
    rintro e w2 ⟨rfl, n2, rfl⟩
    rw [HV2.out]
    go_wp2
    go_ret
    exact ⟨ret_int HE.out.symm, n1 + n2, by simp⟩
  · have e : errP p q = 2 := by unfold errP; rw [if_pos ⟨hv1, hv2⟩, if_neg hl]
    have HE := Lib.hid e
    have hlb : ((p.length : Int) != (q.length : Int)) = true := by simp; omega
    have HV1 := Lib.hid hv1
    have HV2 := Lib.hid hv2
    clear hl hv1 hv2 e
    go_enter Try.func49, Try.ntmps49
    go_wp2_with fail
    refine (refvalid_any _ p _ H1.out hp).mono ?_
    rintro e w1 ⟨rfl, n1, rfl⟩
    rw [HV1.out]
    go_wp2_with fail
    refine (refvalid_any _ q _ (H2.out.drewN n1) hq).mono ?_
    rintro e w2 ⟨rfl, n2, rfl⟩
    rw [HV2.out]
    go_wp2
    go_ret
    exact ⟨ret_int HE.out.symm, n1 + n2, by simp⟩


set_option maxHeartbeats 1000000 in
theorem refcomm_any (v1 v2 : Value) (p q : List Int) (w : World) (h1 : Sl w v1 p) (h2 : Sl w v2 q) (he : errP p q = 0) :
    Calls Try.prog 41 #[v1, v2] w fun e w' => ∃ v, e = .returned v ∧ Ow w.heap.size w' v (commL p q) ∧ Below w.heap.size w w' := by
  have H1 := Lib.hid h1
  have H2 := Lib.hid h2
  obtain ⟨a, ca, rfl, _⟩ := h1
  obtain ⟨b, cb, rfl, _⟩ := h2
  obtain ⟨g1, g2, g3⟩ := errP_zero he
  have V1 := Lib.hid g1
  have V2 := Lib.hid g2
  have HL := Lib.hid g3
  have hp : p.length ≤ 1000000 := by have := ((validL_iff p).1 g1).2.1; omega
  have hq : q.length ≤ 1000000 := by have := ((validL_iff q).1 g2).2.1; omega
  clear he g1 g2 g3
  go_enter Try.func41, Try.ntmps41
  go_wp2_with fail
  refine (refinv_any _ p _ H1.out hp (inR_of_valid V1.out)).mono ?_
  rintro e w2 ⟨x1, rfl, hO1, hb2⟩
  have HO1 := Lib.hid hO1
  have HB2 := Lib.hid hb2
  clear hO1 hb2
  go_wp2_with fail
  refine (refinv_any _ q _ (H2.out.below HB2.out) hq (inR_of_valid V2.out)).mono ?_
  rintro e w3 ⟨x2, rfl, hO2, hb3⟩
  have HO1 := Lib.hid (HO1.out.below hb3)
  have HO2 := Lib.hid hO2
  have HB3 := Lib.hid (HB2.out.trans (hb3.mono HB2.out.size))
  clear hO2 hb3
  go_wp2_with fail
  refine (refmul_any _ _ _ _ _ HO1.out.sl HO2.out.sl (by rw [length_invL]; exact hp) (by rw [length_invL]; exact hq) (by
    have := inR_of_valid (invL_valid V1.out)
    rwa [length_invL, HL.out, ← length_invL] at this)).mono ?_
  rintro e w4 ⟨x3, rfl, hO3, hb4⟩
  have HO3 := Lib.hid hO3
  have HB4 := Lib.hid (HB3.out.trans (hb4.mono HB3.out.size))
  clear hO3 hb4
  go_wp2_with fail
  refine (refmul_any _ _ p q _ (H1.out.below HB4.out) (H2.out.below HB4.out) hp hq (by
    have := inR_of_valid V1.out
    rwa [HL.out] at this)).mono ?_
  rintro e w5 ⟨x4, rfl, hO4, hb5⟩
  have HO3 := Lib.hid (HO3.out.below hb5)
  have HO4 := Lib.hid hO4
  have HB5 := Lib.hid (HB4.out.trans (hb5.mono HB4.out.size))
  clear hO4 hb5
  go_wp2_with fail
  refine (refmul_any _ _ _ _ _ HO3.out.sl HO4.out.sl (by rw [length_mulL, length_invL]; exact hp) (by rw [length_mulL]; exact hp) (by
    have := inR_of_valid (mulL_valid (invL_valid V1.out) (invL_valid V2.out) (by simp [length_invL, HL.out]))
    rwa [length_mulL, length_invL, ← length_mulL p q] at this)).mono ?_
  rintro e w6 ⟨x5, rfl, hO5, hb6⟩
  have HO5 := Lib.hid hO5
  have HB6 := Lib.hid (HB5.out.trans (hb6.mono HB5.out.size))
  clear hO5 hb6
  go_wp2
  go_ret
  exact ⟨x5, rfl, HO5.out.mono HB5.out.size, HB6.out⟩

/-- a slice of slices: its cells hold the values vs, each of them a slice -/
def Sls (w : World) (v : Value) (vs : List Value) : Prop :=
  ∃ (b off cap : Nat), v = .slice (some ⟨b, off, none⟩) vs.length cap ∧ ∀ i, i < vs.length → w.cell? ⟨b, off + i, none⟩ = some (vs.getD i undef) ∧ ∃ a n c, vs.getD i undef = .slice a n c

def shortB (vs : List Value) : Bool := decide (∀ i, i < vs.length → lenOf (vs.getD i undef) ≤ 100)
theorem shortB_yes {vs : List Value} (h : ∀ i, i < vs.length → lenOf (vs.getD i undef) ≤ 100) : shortB vs = true := decide_eq_true h
theorem shortB_no {vs : List Value} {i : Nat} (hi : i < vs.length) (h : ¬ lenOf (vs.getD i undef) ≤ 100) : shortB vs = false := decide_eq_false (fun hall => h (hall i hi))

end Go.Proofs.Ytjnjhfificpbbaa
