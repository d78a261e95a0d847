/- The walks of the statements' own functions, sixth part: PermValid. -/
import Derived.Test.YtcnkegcogepimaaProg
import Derived.Test.YtcnkegcogepimaaBase
import Derived.Test.YtcnkegcogepimaaRef
import Derived.Test.YtcnkegcogepimaaPow
import Derived.Test.YtcnkegcogepimaaLawB
import Derived.Test.YtcnkegcogepimaaLawD
import Derived.Test.YtcnkegcogepimaaCycs2
import Derived.Test.YtcnkegcogepimaaRefB
import Derived.Test.YtcnkegcogepimaaRefC
namespace Go.Proofs.Ytcnkegcogepimaa
open Go.RowKit

theorem longL_bounds {p : List Int} (h : validL p = true) : (longL p).length ≤ 1000000 ∧ ∀ i, i < (longL p).length → ((longL p).getD i []).length ≤ 1000000 := by
  have h1 : (longL p).length ≤ (cyc p).length := List.length_filter_le _ _
  have h2 := cyc_count h
  refine ⟨by omega, fun i hi => ?_⟩
  have hm : (longL p).getD i [] ∈ longL p := by simp [hi]
  have hc := (List.mem_filter.1 hm).1
  obtain ⟨j, hj, e⟩ := List.getElem_of_mem hc
  have := cyc_len h hj
  rw [← e]
  simp [hj] at this
  omega

set_option maxHeartbeats 2000000 in
theorem valid_law (v1 : Value) (p : List Int) (w : World) (h1 : Sl w v1 p) :
    Calls Try.prog 3 #[v1] w fun e w' => e = .returned (.bool true) ∧ Below w.heap.size w w' := by
  have H1 := Lib.hid h1
  obtain ⟨a, ca, rfl, _⟩ := h1
  have HS := Lib.hid (sls_one w a p.length ca)
  have B0 := Lib.hid ((Below.refl _ w).alloc (Nat.le_refl _) (.cells #[.slice a p.length ca] 23))
  by_cases hsh : p.length ≤ 100
  · have HB := Lib.hid (short_one (a := a) (c := ca) hsh)
    have hp : p.length ≤ 1000000 := by omega
    rcases hv : validL p with _ | _
    · have V := Lib.hid hv
      have HE := Lib.hid (show errV p = 1 from if_neg (by rw [hv]; decide))
      have HM := Lib.hid (show invE p = [] from if_neg (by rw [hv]; decide))
      clear hv
      go_enter Try.func3, Try.ntmps3
      go_wp2_with fail
      refine (short_any _ _ _ HS.out (by simp)).mono ?_
      rintro e w1 ⟨rfl, rfl⟩
      rw [HB.out]
      go_wp2_with fail
      refine (refvalid_any _ p _ (H1.out.below B0.out) hp).mono ?_
      rintro e w1 ⟨rfl, n1, rfl⟩
      rw [V.out]
      have B1 := Lib.hid (below_drewN' B0.out n1)
      go_wp2_with fail
      refine (Inverse_any _ p _ (H1.out.below B1.out) hp).mono ?_
      rintro e w2 ⟨x, rfl, O, b2⟩
      rw [HE.out]
      rw [HM.out] at O
      have O := Lib.hid O
      have B2 := Lib.hid (B1.out.trans (b2.mono B1.out.size))
      clear b2
      go_wp2_with fail
      refine (valid_any _ p _ (H1.out.below B2.out) hp).mono ?_
      rintro e w3 ⟨rfl, b3⟩
      rw [V.out]
      have O := Lib.hid (O.out.below b3)
      have B3 := Lib.hid (B2.out.trans (b3.mono B2.out.size))
      clear b3
      go_wp2_with fail
      refine (order_no _ p _ (H1.out.below B3.out) hp V.out).mono ?_
      rintro e w4 ⟨rfl, b4⟩
      have O := Lib.hid (O.out.below b4)
      have B4 := Lib.hid (B3.out.trans (b4.mono B3.out.size))
      clear b4
      go_wp2_with fail
      refine (parity_no _ p _ (H1.out.below B4.out) hp V.out).mono ?_
      rintro e w5 ⟨rfl, b5⟩
      have O := Lib.hid (O.out.below b5)
      have B5 := Lib.hid (B4.out.trans (b5.mono B4.out.size))
      clear b5
      go_wp2_with fail
      refine (cycles_no _ p _ (H1.out.below B5.out) hp V.out).mono ?_
      rintro e w6 ⟨rfl, b6⟩
      have O := Lib.hid (O.out.below b6)
      have B6 := Lib.hid (B5.out.trans (b6.mono B5.out.size))
      clear b6
      go_wp2_with fail
      refine (is_bad _ _ 1 _ O.out.sl (by decide)).mono ?_
      rintro e w7 ⟨rfl, rfl⟩
      go_wp2_with fail
      refine (alive_any _).mono ?_
      rintro e w8 ⟨rfl, b8⟩
      have B8 := Lib.hid (B6.out.trans (b8.mono B6.out.size))
      go_wp2
      go_ret
      exact ⟨rfl, B8.out⟩
    · have V := Lib.hid hv
      have HE := Lib.hid (show errV p = 0 from if_pos hv)
      have HM := Lib.hid (show invE p = invL p from if_pos hv)
      have HP := Lib.hid (par_iv hv)
      have hp7 := ((validL_iff p).1 hv).2.1
      have HR := Lib.hid (inR_of_valid hv)
      have hl : (invL p).length ≤ 1000000 := by rw [length_invL]; exact hp
      obtain ⟨k1, k2⟩ := longL_bounds hv
      have K1 := Lib.hid k1
      have K2 := Lib.hid k2
      clear hv k1 k2
      go_enter Try.func3, Try.ntmps3
      go_wp2_with fail
      refine (short_any _ _ _ HS.out (by simp)).mono ?_
      rintro e w1 ⟨rfl, rfl⟩
      rw [HB.out]
      go_wp2_with fail
      refine (refvalid_any _ p _ (H1.out.below B0.out) hp).mono ?_
      rintro e w1 ⟨rfl, n1, rfl⟩
      rw [V.out]
      have B1 := Lib.hid (below_drewN' B0.out n1)
      go_wp2_with fail
      refine (reford_any _ p _ (H1.out.below B1.out) V.out).mono ?_
      rintro e w2 ⟨rfl, b2⟩
      have B2 := Lib.hid (B1.out.trans (b2.mono B1.out.size))
      clear b2
      go_wp2_with fail
      refine (refpar_any _ p _ (H1.out.below B2.out) hp7).mono ?_
      rintro e w3 ⟨rfl, n3, rfl⟩
      rw [← HP.out]
      have B3 := Lib.hid (below_drewN' B2.out n3)
      go_wp2_with fail
      refine (refcyc_any _ p _ (H1.out.below B3.out) V.out).mono ?_
      rintro e w4 ⟨cy, rfl, C, b4⟩
      have C := Lib.hid C
      have B4 := Lib.hid (B3.out.trans (b4.mono B3.out.size))
      clear b4
      go_wp2_with fail
      refine (refinv_any _ p _ (H1.out.below B4.out) hp HR.out).mono ?_
      rintro e w5 ⟨iv, rfl, I, b5⟩
      have C := Lib.hid (C.out.below b5)
      have I := Lib.hid I
      have B5 := Lib.hid (B4.out.trans (b5.mono B4.out.size))
      clear b5
      go_wp2_with fail
      refine (Inverse_any _ p _ (H1.out.below B5.out) hp).mono ?_
      rintro e w6 ⟨x, rfl, O, b6⟩
      rw [HE.out]
      rw [HM.out] at O
      have O := Lib.hid O
      have C := Lib.hid (C.out.below b6)
      have I := Lib.hid (I.out.below b6)
      have B6 := Lib.hid (B5.out.trans (b6.mono B5.out.size))
      clear b6
      go_wp2_with fail
      refine (valid_any _ p _ (H1.out.below B6.out) hp).mono ?_
      rintro e w7 ⟨rfl, b7⟩
      rw [V.out]
      have O := Lib.hid (O.out.below b7)
      have C := Lib.hid (C.out.below b7)
      have I := Lib.hid (I.out.below b7)
      have B7 := Lib.hid (B6.out.trans (b7.mono B6.out.size))
      clear b7
      go_wp2_with fail
      refine (order_yes _ p _ (H1.out.below B7.out) V.out).mono ?_
      rintro e w8 ⟨rfl, b8⟩
      have O := Lib.hid (O.out.below b8)
      have C := Lib.hid (C.out.below b8)
      have I := Lib.hid (I.out.below b8)
      have B8 := Lib.hid (B7.out.trans (b8.mono B7.out.size))
      clear b8
      go_wp2_with fail
      refine (parity_yes _ p _ (H1.out.below B8.out) V.out).mono ?_
      rintro e w9 ⟨rfl, b9⟩
      have O := Lib.hid (O.out.below b9)
      have C := Lib.hid (C.out.below b9)
      have I := Lib.hid (I.out.below b9)
      have B9 := Lib.hid (B8.out.trans (b9.mono B8.out.size))
      clear b9
      go_wp2_with fail
      refine (cycles_yes _ p _ (H1.out.below B9.out) V.out).mono ?_
      rintro e w10 ⟨cz, rfl, C2, b10⟩
      have O := Lib.hid (O.out.below b10)
      have C := Lib.hid (C.out.below b10)
      have C2 := Lib.hid C2
      have I := Lib.hid (I.out.below b10)
      have B10 := Lib.hid (B9.out.trans (b10.mono B9.out.size))
      clear b10
      go_wp2_with fail
      refine (samelists_yes _ _ _ _ C2.out.slls C.out.slls K1.out K2.out).mono ?_
      rintro e w11 ⟨rfl, n11, rfl⟩
      have O := Lib.hid (O.out.drewN n11)
      have I := Lib.hid (I.out.drewN n11)
      have B11 := Lib.hid (below_drewN' B10.out n11)
      go_wp2_with fail
      refine (is_ok _ _ _ _ O.out.sl I.out.sl hl).mono ?_
      rintro e w12 ⟨rfl, n12, rfl⟩
      have B12 := Lib.hid (below_drewN' B10.out (n11 + n12))
      go_wp2_with fail
      refine (alive_any _).mono ?_
      rintro e w13 ⟨rfl, b13⟩
      have B13 := Lib.hid (B12.out.trans (b13.mono B12.out.size))
      go_wp2
      go_ret
      exact ⟨rfl, B13.out⟩
  · have HB := Lib.hid (short_one_no (a := a) (c := ca) hsh)
    clear hsh
    go_enter Try.func3, Try.ntmps3
    go_wp2_with fail
    refine (short_any _ _ _ HS.out (by simp)).mono ?_
    rintro e w1 ⟨rfl, rfl⟩
    rw [HB.out]
    go_wp2_with fail
    refine (alive_any _).mono ?_
    rintro e w2 ⟨rfl, b2⟩
    have B2 := Lib.hid (B0.out.trans (b2.mono B0.out.size))
    clear b2
    go_wp2
    go_ret
    exact ⟨rfl, B2.out⟩

end Go.Proofs.Ytcnkegcogepimaa
