/- The reference's Conjugator, by its meaning. -/
import Derived.Test.YtcnkegcogepimaaProg
import Derived.Test.YtcnkegcogepimaaBase
import Derived.Test.YtcnkegcogepimaaRef
import Derived.Test.YtcnkegcogepimaaRunr
import Derived.Test.YtcnkegcogepimaaSame
import Derived.Test.YtcnkegcogepimaaRankL
import Derived.Test.YtcnkegcogepimaaLawC
import Derived.Test.YtcnkegcogepimaaAlg
namespace Go.Proofs.Ytcnkegcogepimaa
open Go.RowKit

/-- p conjugated by the i-th permutation -/
def cjT (p : List Int) (i : Nat) : List Int := mulL (mulL (invL (unrL p.length i)) p) (unrL p.length i)

set_option maxHeartbeats 1000000 in
theorem refconj_any (v1 v2 : Value) (p q : List Int) (w : World) (h1 : Sl w v1 p) (h2 : Sl w v2 q) (hv : validL p = true) (hq : q.length ≤ 1000000) :
    Calls Try.prog 39 #[v1, v2] w fun e w' => ((e = .returned (.tuple #[.slice none 0 0, .bool false]) ∧ ∀ i, i < fact p.length → cjT p i ≠ q) ∨
      ∃ i v, i < fact p.length ∧ cjT p i = q ∧ (∀ j, j < i → cjT p j ≠ q) ∧ e = .returned (.tuple #[v, .bool true]) ∧ Ow w.heap.size w' v (unrL p.length i)) ∧ Below w.heap.size w w' := by
  have H1 := Lib.hid h1
  have H2 := Lib.hid h2
  have V := Lib.hid hv
  obtain ⟨n1, n7, _⟩ := (validL_iff p).1 hv
  have hp : p.length ≤ 1000000 := by omega
  obtain ⟨f1, f2⟩ := fact_le p.length n7
  obtain ⟨a, ca, rfl, _⟩ := h1
  obtain ⟨b, cb, rfl, _⟩ := h2
  obtain ⟨F, hF⟩ : ∃ F, F = fact p.length := ⟨_, rfl⟩
  rw [← hF] at f1 f2
  have HF := Lib.hid hF
  rw [← hF]
  clear hv hF
  go_enter Try.func39, Try.ntmps39
  go_wp2
  go_loopw [6, 7] (fun i _ wr => ∃ k : Nat, k ≤ F ∧ i = .int .i64 k ∧ Hid (∀ j, j < k → cjT p j ≠ q) ∧ Hid (Below w.heap.size w wr)) (fun i _ _ => F - (intOf i).toNat)
  case atStart => exact ⟨0, Nat.zero_le _, rfl, Lib.hid (fun j hj => by omega), Lib.hid (Below.refl _ _)⟩
  case round =>
    obtain ⟨k, hk, rfl, hn, HB⟩ := hrel
    by_cases hlt : k < F
    · have vc := Lib.hid (unrL_valid n1 n7 (show k < fact p.length by rw [← HF.out]; exact hlt))
      have lc : (unrL p.length k).length = p.length := by unfold unrL; rw [length_unr]
      have I1 := Lib.hid (inR_of_valid vc.out)
      have vi := invL_valid vc.out
      have I2 : Hid (inR (invL (unrL p.length k)) p.length) := Lib.hid (by have := inR_of_valid vi; rwa [length_invL, lc] at this)
      have vm := mulL_valid vi V.out (by rw [length_invL, lc])
      have I3 : Hid (inR (mulL (invL (unrL p.length k)) p) (unrL p.length k).length) := Lib.hid (by have := inR_of_valid vm; rwa [length_mulL, length_invL] at this)
      have L1 := Lib.hid lc
      clear vi vm lc
      go_wp2_with fail
      refine (reffact_any 7 p.length _ n7 n7).mono ?_
      rintro e w1 ⟨rfl, rfl⟩
      rw [← HF.out]
      go_wp2_with fail
      refine (refunr_any p.length k _ n1 n7 (by rw [← HF.out]; exact hlt)).mono ?_
      rintro e w2 ⟨c, rfl, O, b2⟩
      have O := Lib.hid (O.mono HB.out.size)
      have B2 := Lib.hid (HB.out.trans (b2.mono HB.out.size))
      clear b2
      go_wp2_with fail
      refine (refinv_any _ _ _ O.out.sl (by rw [L1.out]; exact hp) I1.out).mono ?_
      rintro e w3 ⟨x, rfl, O3, b3⟩
      have O := Lib.hid (O.out.below b3)
      have O3 := Lib.hid O3
      have B3 := Lib.hid (B2.out.trans (b3.mono B2.out.size))
      clear b3
      go_wp2_with fail
      refine (refmul_any _ _ _ p _ O3.out.sl (H1.out.below B3.out) (by rw [length_invL, L1.out]; exact hp) hp I2.out).mono ?_
      rintro e w4 ⟨y, rfl, O4, b4⟩
      have O := Lib.hid (O.out.below b4)
      have O4 := Lib.hid O4
      have B4 := Lib.hid (B3.out.trans (b4.mono B3.out.size))
      clear b4
      go_wp2_with fail
      refine (refmul_any _ _ _ _ _ O4.out.sl O.out.sl (by rw [length_mulL, length_invL, L1.out]; exact hp) (by rw [L1.out]; exact hp) I3.out).mono ?_
      rintro e w5 ⟨z, rfl, O5, b5⟩
      have O := Lib.hid (O.out.below b5)
      have O5 := Lib.hid O5
      have B5 := Lib.hid (B4.out.trans (b5.mono B4.out.size))
      clear b5
      go_wp2_with fail
      refine (same_any _ _ _ q _ O5.out.sl (H2.out.below B5.out) (by rw [length_mulL, length_mulL, length_invL, L1.out]; exact hp) hq).mono ?_
      rintro e w6 ⟨rfl, n6, rfl⟩
      have O := Lib.hid (O.out.drewN n6)
      have B6 := Lib.hid (below_drewN' B5.out n6)
      by_cases he : cjT p k = q
      · rw [decide_eq_true (show mulL (mulL (invL (unrL p.length k)) p) (unrL p.length k) = q from he)]
        have HE := Lib.hid he
        clear he
        go_wp2
        go_ret2
        exact ⟨.inr ⟨k, _, hlt, HE.out, hn.out, rfl, O.out⟩, B6.out⟩
      · rw [decide_eq_false (show ¬ mulL (mulL (invL (unrL p.length k)) p) (unrL p.length k) = q from he)]
        have HN : Hid (∀ j, j < k + 1 → cjT p j ≠ q) := Lib.hid (fun j hj => by
          by_cases e : j = k
          · rw [e]; exact he
          · exact hn.out j (by omega))
        clear he
        go_wp2
        go_roundw
        case rel => exact ⟨k + 1, by omega, by go_num, HN, B6⟩
        case measure => simp [intOf]; omega
    · have hke : k = F := by omega
      have hlt' : F ≤ k := by omega
      have HN : Hid (∀ j, j < F → cjT p j ≠ q) := Lib.hid (by rw [← hke]; exact hn.out)
      clear hke
      go_wp2_with fail
      refine (reffact_any 7 p.length _ n7 n7).mono ?_
      rintro e w1 ⟨rfl, rfl⟩
      rw [← HF.out]
      go_wp2
      go_ret2
      exact ⟨.inl ⟨rfl, HN.out⟩, HB.out⟩
end Go.Proofs.Ytcnkegcogepimaa
