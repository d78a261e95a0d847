/- The walks of the statements' own functions, fourth part: PermPowers. -/
import Derived.Test.YtcnkegcogepimaaProg
import Derived.Test.YtcnkegcogepimaaBase
import Derived.Test.YtcnkegcogepimaaRef
import Derived.Test.YtcnkegcogepimaaPow
import Derived.Test.YtcnkegcogepimaaLawB
namespace Go.Proofs.Ytcnkegcogepimaa
open Go.RowKit

theorem short_one {a : Option Addr} {n c : Nat} (h : n ≤ 100) : shortB [.slice a n c] = true := shortB_yes fun i hi => by
  match i, hi with
  | 0, _ => exact h
theorem short_one_no {a : Option Addr} {n c : Nat} (h : ¬ n ≤ 100) : shortB [.slice a n c] = false := shortB_no (i := 0) (by simp) h

set_option maxHeartbeats 1000000 in
theorem powers_law (v1 : Value) (p : List Int) (k : Int) (w : World) (h1 : Sl w v1 p) :
    Calls Try.prog 6 #[v1, .int .i64 k] w fun e w' => e = .returned (.bool true) ∧ Below w.heap.size w w' := by
  have H1 := Lib.hid h1
  obtain ⟨a, ca, rfl, _⟩ := h1
  have HS := Lib.hid (sls_one w a p.length ca)
  have B0 := Lib.hid ((Below.refl _ w).alloc (Nat.le_refl _) (.cells #[.slice a p.length ca] 23))
  by_cases hsh : p.length ≤ 100
  · have HB := Lib.hid (short_one (a := a) (c := ca) hsh)
    have hp : p.length ≤ 1000000 := by omega
    rcases hv : validL p with _ | _
    · have V := Lib.hid hv
      have HE := Lib.hid (show errV p = 1 from if_neg (by rw [hv]; decide))
      have HM := Lib.hid (show powE p k = [] from if_neg (by rw [hv]; decide))
      clear hv
      go_enter Try.func6, Try.ntmps6
      go_wp2_with fail
      refine (short_any _ _ _ HS.out (by simp)).mono ?_
      rintro e w1 ⟨rfl, rfl⟩
      rw [HB.out]
      go_wp2_with fail
      refine (refvalid_any _ p _ (H1.out.below B0.out) hp).mono ?_
      rintro e w1 ⟨rfl, n1, rfl⟩
      rw [V.out]
      have B1 := Lib.hid (below_drewN' B0.out n1)
      go_wp2_with fail
      refine (Power_any _ p k _ (H1.out.below B1.out) hp).mono ?_
      rintro e w2 ⟨x, rfl, O, b2⟩
      rw [HE.out]
      rw [HM.out] at O
      have O := Lib.hid O
      have B2 := Lib.hid (B1.out.trans (b2.mono B1.out.size))
      clear b2
      go_wp2_with fail
      refine (is_bad _ _ 1 _ O.out.sl (by decide)).mono ?_
      rintro e w3 ⟨rfl, rfl⟩
      go_wp2_with fail
      refine (alive_any _).mono ?_
      rintro e w4 ⟨rfl, b4⟩
      have B4 := Lib.hid (B2.out.trans (b4.mono B2.out.size))
      go_wp2
      go_ret
      exact ⟨rfl, B4.out⟩
    · have V := Lib.hid hv
      have HE := Lib.hid (show errV p = 0 from if_pos hv)
      have HM := Lib.hid (show powE p k = powL p (expL p k) from if_pos hv)
      have hl : (powL p (expL p k)).length ≤ 1000000 := by rw [length_powL]; exact hp
      clear hv
      go_enter Try.func6, Try.ntmps6
      go_wp2_with fail
      refine (short_any _ _ _ HS.out (by simp)).mono ?_
      rintro e w1 ⟨rfl, rfl⟩
      rw [HB.out]
      go_wp2_with fail
      refine (refvalid_any _ p _ (H1.out.below B0.out) hp).mono ?_
      rintro e w1 ⟨rfl, n1, rfl⟩
      rw [V.out]
      have B1 := Lib.hid (below_drewN' B0.out n1)
      go_wp2_with fail
      refine (refpow_any _ p k _ (H1.out.below B1.out) V.out).mono ?_
      rintro e w2 ⟨x, rfl, O, b2⟩
      have O := Lib.hid O
      have B2 := Lib.hid (B1.out.trans (b2.mono B1.out.size))
      clear b2
      go_wp2_with fail
      refine (Power_any _ p k _ (H1.out.below B2.out) hp).mono ?_
      rintro e w3 ⟨y, rfl, O2, b3⟩
      rw [HE.out]
      rw [HM.out] at O2
      have O2 := Lib.hid O2
      have O := Lib.hid (O.out.below b3)
      have B3 := Lib.hid (B2.out.trans (b3.mono B2.out.size))
      clear b3
      go_wp2_with fail
      refine (is_ok _ _ _ _ O2.out.sl O.out.sl hl).mono ?_
      rintro e w4 ⟨rfl, n4, rfl⟩
      have B4 := Lib.hid (below_drewN' B3.out n4)
      go_wp2_with fail
      refine (alive_any _).mono ?_
      rintro e w5 ⟨rfl, b5⟩
      have B5 := Lib.hid (B4.out.trans (b5.mono B4.out.size))
      go_wp2
      go_ret
      exact ⟨rfl, B5.out⟩
  · have HB := Lib.hid (short_one_no (a := a) (c := ca) hsh)
    clear hsh
    go_enter Try.func6, Try.ntmps6
    go_wp2_with fail
    refine (short_any _ _ _ HS.out (by simp)).mono ?_
    rintro e w1 ⟨rfl, rfl⟩
    rw [HB.out]
    go_wp2_with fail
    refine (alive_any _).mono ?_
    rintro e w2 ⟨rfl, b2⟩
    have B2 := Lib.hid (B0.out.trans (b2.mono B0.out.size))
    clear b2
    go_wp2
    go_ret
    exact ⟨rfl, B2.out⟩

end Go.Proofs.Ytcnkegcogepimaa
