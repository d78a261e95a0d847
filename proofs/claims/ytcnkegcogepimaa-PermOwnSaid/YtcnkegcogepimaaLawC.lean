/- The walks of the statements' own functions, third part: PermMakes. -/
import Derived.Test.YtcnkegcogepimaaProg
import Derived.Test.YtcnkegcogepimaaBase
import Derived.Test.YtcnkegcogepimaaRef
import Derived.Test.YtcnkegcogepimaaUnr
import Derived.Test.YtcnkegcogepimaaRunr
import Derived.Test.YtcnkegcogepimaaLawB
namespace Go.Proofs.Ytcnkegcogepimaa
open Go.RowKit

set_option maxHeartbeats 400000 in
theorem Unrank_out (n r : Int) (w : World) (h : n < 1 ∨ 7 < n) :
    Calls Try.prog 28 #[.int .i64 n, .int .i64 r] w fun e w' => e = .returned (.tuple #[.slice none 0 0, .int .i64 2]) ∧ w = w' := by
  rcases h with h | h
  · go_enter Try.func28, Try.ntmps28
    go_wp2_with fail
    go_ret2
    exact ⟨rfl, rfl⟩
  · have h1 : ¬ n < 1 := by omega
    go_enter Try.func28, Try.ntmps28
    go_wp2_with fail
    go_ret2
    exact ⟨rfl, rfl⟩

set_option maxHeartbeats 400000 in
theorem Unrank_no (n : Nat) (r : Int) (w : World) (h1 : 1 ≤ n) (h7 : n ≤ 7) (h : r < 0 ∨ (fact n : Int) ≤ r) :
    Calls Try.prog 28 #[.int .i64 n, .int .i64 r] w fun e w' => e = .returned (.tuple #[.slice none 0 0, .int .i64 2]) ∧ w = w' := by
  by_cases h0 : r < 0
  · clear h
    go_enter Try.func28, Try.ntmps28
    go_wp2_with fail
    go_ret2
    exact ⟨rfl, rfl⟩
  · have h2 : (fact n : Int) ≤ r := by omega
    have hf := fact_le n h7
    clear h
    go_enter Try.func28, Try.ntmps28
    go_wp2_with (go_at_call 54; refine (factorial_any n _ h7).mono ?_; rintro e w' ⟨rfl, rfl⟩)
    go_ret2
    exact ⟨rfl, rfl⟩

set_option maxHeartbeats 1000000 in
theorem makes_law (n r : Int) (w : World) :
    Calls Try.prog 4 #[.int .i64 n, .int .i64 r] w fun e w' => e = .returned (.bool true) ∧ Below w.heap.size w w' := by
  by_cases ho : n < 1 ∨ 7 < n
  · have HO := Lib.hid ho
    have hb : decide (n < 1) = true ∨ (decide (n < 1) = false ∧ decide (7 < n) = true) := by
      rcases ho with h | h
      · exact .inl (decide_eq_true h)
      · by_cases h1 : n < 1
        · exact .inl (decide_eq_true h1)
        · exact .inr ⟨decide_eq_false h1, decide_eq_true h⟩
    clear ho
    have ho2 : (¬ n < 1 → 7 < n) := fun h => by have := HO.out; omega
    have HO2 := Lib.hid ho2
    clear ho2 hb
    by_cases h1 : n < 1
    · go_enter Try.func4, Try.ntmps4
      go_wp2_with fail
      refine (Identity_no n _ HO.out).mono ?_
      rintro e w1 ⟨rfl, rfl⟩
      go_wp2_with fail
      refine (Unrank_out n r _ HO.out).mono ?_
      rintro e w1 ⟨rfl, rfl⟩
      go_wp2_with fail
      refine (is_bad _ _ 2 _ (Sl.nil _) (by decide)).mono ?_
      rintro e w1 ⟨rfl, rfl⟩
      go_wp2_with fail
      refine (is_bad _ _ 2 _ (Sl.nil _) (by decide)).mono ?_
      rintro e w1 ⟨rfl, rfl⟩
      go_wp2_with fail
      refine (alive_any _).mono ?_
      rintro e w2 ⟨rfl, b2⟩
      go_wp2
      go_ret
      exact ⟨rfl, b2⟩
    · have h2 := HO2.out h1
      go_enter Try.func4, Try.ntmps4
      go_wp2_with fail
      refine (Identity_no n _ HO.out).mono ?_
      rintro e w1 ⟨rfl, rfl⟩
      go_wp2_with fail
      refine (Unrank_out n r _ HO.out).mono ?_
      rintro e w1 ⟨rfl, rfl⟩
      go_wp2_with fail
      refine (is_bad _ _ 2 _ (Sl.nil _) (by decide)).mono ?_
      rintro e w1 ⟨rfl, rfl⟩
      go_wp2_with fail
      refine (is_bad _ _ 2 _ (Sl.nil _) (by decide)).mono ?_
      rintro e w1 ⟨rfl, rfl⟩
      go_wp2_with fail
      refine (alive_any _).mono ?_
      rintro e w2 ⟨rfl, b2⟩
      go_wp2
      go_ret
      exact ⟨rfl, b2⟩
  · obtain ⟨m, rfl⟩ := Int.eq_ofNat_of_zero_le (show 0 ≤ n by omega)
    have h1 : 1 ≤ m := by omega
    have h7 : m ≤ 7 := by omega
    have hl : (idL m).length ≤ 1000000 := by rw [length_idL]; omega
    have hf := fact_le m h7
    clear ho
    by_cases hr : r < 0 ∨ (fact m : Int) ≤ r
    · have HR := Lib.hid hr
      by_cases h0 : r < 0
      · clear hr
        go_enter Try.func4, Try.ntmps4
        go_wp2_with fail
        refine (Identity_ok m _ h1 h7).mono ?_
        rintro e w1 ⟨x, rfl, O1, b1⟩
        have O1 := Lib.hid O1
        have B1 := Lib.hid b1
        clear b1
        go_wp2_with fail
        refine (Unrank_no m r _ h1 h7 HR.out).mono ?_
        rintro e w2 ⟨rfl, rfl⟩
        go_wp2_with fail
        refine (refid_blk m _ (by omega)).mono ?_
        rintro e w2 ⟨rfl, hB, b2⟩
        have O1 := Lib.hid (O1.out.below b2)
        have O2 := Lib.hid (Ow.of_blk hB (Nat.le_refl _) hl m (length_idL m).symm).sl
        have B2 := Lib.hid (B1.out.trans (b2.mono B1.out.size))
        clear hB b2
        go_wp2_with fail
        refine (is_ok _ _ _ _ O1.out.sl O2.out hl).mono ?_
        rintro e w3 ⟨rfl, n3, rfl⟩
        have B3 := Lib.hid (below_drewN' B2.out n3)
        go_wp2_with fail
        refine (is_bad _ _ 2 _ (Sl.nil _) (by decide)).mono ?_
        rintro e w4 ⟨rfl, rfl⟩
        go_wp2_with fail
        refine (alive_any _).mono ?_
        rintro e w5 ⟨rfl, b5⟩
        have B5 := Lib.hid (B3.out.trans (b5.mono B3.out.size))
        go_wp2
        go_ret
        exact ⟨rfl, B5.out⟩
      · have h2 : (fact m : Int) ≤ r := by omega
        clear hr
        go_enter Try.func4, Try.ntmps4
        go_wp2_with fail
        refine (Identity_ok m _ h1 h7).mono ?_
        rintro e w1 ⟨x, rfl, O1, b1⟩
        have O1 := Lib.hid O1
        have B1 := Lib.hid b1
        clear b1
        go_wp2_with fail
        refine (Unrank_no m r _ h1 h7 HR.out).mono ?_
        rintro e w2 ⟨rfl, rfl⟩
        go_wp2_with fail
        refine (reffact_any 7 m _ h7 h7).mono ?_
        rintro e w2 ⟨rfl, rfl⟩
        go_wp2_with fail
        refine (refid_blk m _ (by omega)).mono ?_
        rintro e w2 ⟨rfl, hB, b2⟩
        have O1 := Lib.hid (O1.out.below b2)
        have O2 := Lib.hid (Ow.of_blk hB (Nat.le_refl _) hl m (length_idL m).symm).sl
        have B2 := Lib.hid (B1.out.trans (b2.mono B1.out.size))
        clear hB b2
        go_wp2_with fail
        refine (is_ok _ _ _ _ O1.out.sl O2.out hl).mono ?_
        rintro e w3 ⟨rfl, n3, rfl⟩
        have B3 := Lib.hid (below_drewN' B2.out n3)
        go_wp2_with fail
        refine (is_bad _ _ 2 _ (Sl.nil _) (by decide)).mono ?_
        rintro e w4 ⟨rfl, rfl⟩
        go_wp2_with fail
        refine (alive_any _).mono ?_
        rintro e w5 ⟨rfl, b5⟩
        have B5 := Lib.hid (B3.out.trans (b5.mono B3.out.size))
        go_wp2
        go_ret
        exact ⟨rfl, B5.out⟩
    · obtain ⟨s, rfl⟩ := Int.eq_ofNat_of_zero_le (show 0 ≤ r by omega)
      have hs : s < fact m := by omega
      have HS := Lib.hid hs
      have hs2 : (s : Int) < (fact m : Int) := by omega
      have hl2 : (unrL m s).length ≤ 1000000 := by unfold unrL; rw [length_unr]; omega
      clear hr hs
      go_enter Try.func4, Try.ntmps4
      go_wp2_with fail
      refine (Identity_ok m _ h1 h7).mono ?_
      rintro e w1 ⟨x, rfl, O1, b1⟩
      have O1 := Lib.hid O1
      have B1 := Lib.hid b1
      clear b1
      go_wp2_with fail
      refine (unrank_ok m s _ h1 h7 HS.out).mono ?_
      rintro e w2 ⟨y, rfl, P1, b2⟩
      have O1 := Lib.hid (O1.out.below b2)
      have P1 := Lib.hid P1
      have B2 := Lib.hid (B1.out.trans (b2.mono B1.out.size))
      clear b2
      go_wp2_with fail
      refine (reffact_any 7 m _ h7 h7).mono ?_
      rintro e w2' ⟨rfl, rfl⟩
      go_wp2_with fail
      refine (refid_blk m _ (by omega)).mono ?_
      rintro e w3 ⟨rfl, hB, b3⟩
      have O1 := Lib.hid (O1.out.below b3)
      have P1 := Lib.hid (P1.out.below b3)
      have O2 := Lib.hid (Ow.of_blk hB (Nat.le_refl _) hl m (length_idL m).symm).sl
      have B3 := Lib.hid (B2.out.trans (b3.mono B2.out.size))
      clear hB b3
      go_wp2_with fail
      refine (is_ok _ _ _ _ O1.out.sl O2.out hl).mono ?_
      rintro e w4 ⟨rfl, n4, rfl⟩
      have B4 := Lib.hid (below_drewN' B3.out n4)
      have P1 := Lib.hid (P1.out.below (below_drewN' (Below.refl _ _) n4))
      go_wp2_with fail
      obtain ⟨u4, hu4⟩ : ∃ u, u = w3.drewN n4 := ⟨_, rfl⟩
      rw [← hu4] at P1 B4 ⊢
      clear hu4
      refine (refunr_any m s _ h1 h7 HS.out).mono ?_
      rintro e w5 ⟨z, rfl, P2, b5⟩
      have P1 := Lib.hid (P1.out.below b5)
      have P2 := Lib.hid P2
      have B5 := Lib.hid (B4.out.trans (b5.mono B4.out.size))
      clear b5
      go_wp2_with fail
      refine (is_ok _ _ _ _ P1.out.sl P2.out.sl hl2).mono ?_
      rintro e w6 ⟨rfl, n6, rfl⟩
      have B6 := Lib.hid (below_drewN' B5.out n6)
      go_wp2_with fail
      refine (alive_any _).mono ?_
      rintro e w7 ⟨rfl, b7⟩
      have B7 := Lib.hid (B6.out.trans (b7.mono B6.out.size))
      go_wp2
      go_ret
      exact ⟨rfl, B7.out⟩

end Go.Proofs.Ytcnkegcogepimaa
