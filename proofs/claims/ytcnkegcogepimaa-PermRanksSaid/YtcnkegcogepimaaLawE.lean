/- The walks of the statements' own functions, fifth part: PermRanks. -/
import Derived.Test.YtcnkegcogepimaaProg
import Derived.Test.YtcnkegcogepimaaBase
import Derived.Test.YtcnkegcogepimaaRank
import Derived.Test.YtcnkegcogepimaaLawC
namespace Go.Proofs.Ytcnkegcogepimaa
open Go.RowKit

/-- what Unrank does at whatever numbers -/
theorem Unrank_any (n r : Int) (w : World) :
    Calls Try.prog 28 #[.int .i64 n, .int .i64 r] w fun e w' =>
      (e = .returned (.tuple #[.slice none 0 0, .int .i64 2]) ∧ w = w' ∧ ¬ ∃ m s : Nat, n = m ∧ r = s ∧ 1 ≤ m ∧ m ≤ 7 ∧ s < fact m) ∨
      (∃ v, ∃ m s : Nat, n = m ∧ r = s ∧ 1 ≤ m ∧ m ≤ 7 ∧ s < fact m ∧ e = .returned (.tuple #[v, .int .i64 0]) ∧ Ow w.heap.size w' v (unrL m s) ∧ Below w.heap.size w w') := by
  by_cases h : ∃ m s : Nat, n = m ∧ r = s ∧ 1 ≤ m ∧ m ≤ 7 ∧ s < fact m
  · obtain ⟨m, s, rfl, rfl, h1, h7, hs⟩ := h
    refine (unrank_ok m s w h1 h7 hs).mono ?_
    rintro e w' ⟨v, rfl, O, b⟩
    exact .inr ⟨v, m, s, rfl, rfl, h1, h7, hs, rfl, O, b⟩
  · by_cases ho : n < 1 ∨ 7 < n
    · refine (Unrank_out n r w ho).mono ?_
      rintro e w' ⟨rfl, rfl⟩
      exact .inl ⟨rfl, rfl, h⟩
    · obtain ⟨m, rfl⟩ := Int.eq_ofNat_of_zero_le (show 0 ≤ n by omega)
      refine (Unrank_no m r w (by omega) (by omega) ?_).mono ?_
      · rcases Int.lt_or_le r 0 with h0 | h0
        · exact .inl h0
        · obtain ⟨s, rfl⟩ := Int.eq_ofNat_of_zero_le h0
          refine .inr (Int.not_lt.1 (fun h2 => h ⟨m, s, rfl, rfl, by omega, by omega, by omega⟩))
      · rintro e w' ⟨rfl, rfl⟩
        exact .inl ⟨rfl, rfl, h⟩

set_option maxHeartbeats 2000000 in
theorem ranks_law (n a b : Int) (w : World) :
    Calls Try.prog 11 #[.int .i64 n, .int .i64 a, .int .i64 b] w fun e w' => e = .returned (.bool true) ∧ Below w.heap.size w w' := by
  go_enter Try.func11, Try.ntmps11
  go_wp2_with fail
  refine (Unrank_any n a _).mono ?_
  rintro e w1 (⟨rfl, rfl, hno⟩ | ⟨x, m, s, hn, ha, h1, h7, hs, rfl, O1, b1⟩)
  · have HN := Lib.hid hno
    clear hno
    go_wp2_with fail
    refine (Unrank_any n b _).mono ?_
    rintro e w2 (⟨rfl, rfl, hno2⟩ | ⟨y, m2, s2, hn2, ha2, h12, h72, hs2, rfl, O2, b2⟩)
    · have HN2 := Lib.hid hno2
      clear hno2
      go_wp2_with fail
      refine (alive_any _).mono ?_
      rintro e w3 ⟨rfl, b3⟩
      go_wp2
      go_ret
      exact ⟨rfl, b3⟩
    · have B2 := Lib.hid b2
      have O2 := Lib.hid O2
      clear hn2 ha2 hs2 b2
      go_wp2_with fail
      refine (alive_any _).mono ?_
      rintro e w3 ⟨rfl, b3⟩
      have B3 := Lib.hid (B2.out.trans (b3.mono B2.out.size))
      go_wp2
      go_ret
      exact ⟨rfl, B3.out⟩
  · have HN := Lib.hid hn
    have HA := Lib.hid ha
    have HS := Lib.hid hs
    have B1 := Lib.hid b1
    have O1 := Lib.hid O1
    clear hn ha hs b1
    go_wp2_with fail
    refine (Unrank_any n b _).mono ?_
    rintro e w2 (⟨rfl, rfl, hno2⟩ | ⟨y, m2, s2, hn2, hb2, h12, h72, hs2, rfl, O2, b2⟩)
    · have HN2 := Lib.hid hno2
      clear hno2
      go_wp2_with fail
      refine (alive_any _).mono ?_
      rintro e w3 ⟨rfl, b3⟩
      have B3 := Lib.hid (B1.out.trans (b3.mono B1.out.size))
      go_wp2
      go_ret
      exact ⟨rfl, B3.out⟩
    · obtain rfl : m2 = m := by have := HN.out; omega
      have HB := Lib.hid hb2
      have HS2 := Lib.hid hs2
      have O1 := Lib.hid (O1.out.below b2)
      have O2 := Lib.hid O2
      have B2 := Lib.hid (B1.out.trans (b2.mono B1.out.size))
      have R1 := Lib.hid (rank_unrL HS.out)
      have R2 := Lib.hid (rank_unrL HS2.out)
      have L := Lib.hid (less_unrL HS.out HS2.out)
      have ha0 : (((s : Nat) : Int) == a) = true := by rw [HA.out]; simp
      have hb0 : (((s2 : Nat) : Int) == b) = true := by rw [HB.out]; simp
      have hl : (unrL m2 s).length ≤ 1000000 := by unfold unrL; rw [length_unr]; omega
      have hlt : Hid (decide (s < s2) = decide (a < b)) := Lib.hid (by
        rw [decide_eq_decide]
        have h1 := HA.out
        have h2 := HB.out
        omega)
      clear hn2 hb2 hs2 b2
      go_wp2_with fail
      refine (Rank_ok _ _ _ O1.out.sl (unrL_valid h1 h7 HS.out) O1.out.cap).mono ?_
      rintro e w3 ⟨rfl, b3⟩
      rw [R1.out]
      have O1 := Lib.hid (O1.out.below b3)
      have O2 := Lib.hid (O2.out.below b3)
      have B3 := Lib.hid (B2.out.trans (b3.mono B2.out.size))
      clear b3
      go_wp2_with fail
      refine (Rank_ok _ _ _ O2.out.sl (unrL_valid h1 h7 HS2.out) O2.out.cap).mono ?_
      rintro e w4 ⟨rfl, b4⟩
      rw [R2.out]
      have O1 := Lib.hid (O1.out.below b4)
      have O2 := Lib.hid (O2.out.below b4)
      have B4 := Lib.hid (B3.out.trans (b4.mono B3.out.size))
      clear b4
      go_wp2_with fail
      refine (less_any _ _ _ _ _ O1.out.sl O2.out.sl hl).mono ?_
      rintro e w5 ⟨rfl, n5, rfl⟩
      rw [L.out, hlt.out]
      have B5 := Lib.hid (below_drewN' B4.out n5)
      have hbb : (decide (a < b) == decide (a < b)) = true := by simp
      go_wp2_with fail
      refine (alive_any _).mono ?_
      rintro e w6 ⟨rfl, b6⟩
      have B6 := Lib.hid (B5.out.trans (b6.mono B5.out.size))
      go_wp2
      go_ret
      exact ⟨rfl, B6.out⟩

end Go.Proofs.Ytcnkegcogepimaa
