/- The statements' own functions is and alive: the program computes the examples. -/
import Derived.Test.YtmenkahkdcjkiaaDoorProg
import Derived.Test.YtmenkahkdcjkiaaDoorBase
import Derived.Test.YtmenkahkdcjkiaaDoorFops
import Derived.Test.YtmenkahkdcjkiaaDoorRsum
import Derived.Test.YtmenkahkdcjkiaaDoorFinv
namespace Go.Proofs.YtmenkahkdcjkiaaDoor
open Go.RowKit

set_option maxHeartbeats 1000000 in
theorem is_ok (x : Int) (w : World) : Calls Tryd.prog 15 #[.int .i64 x, .int .i64 0, .int .i64 x, .int .i64 0] w fun e w' => e = .returned (.bool true) ∧ w = w' := by
  go_enter Tryd.func15, Tryd.ntmps15
  go_wp2
  go_ret
  exact ⟨rfl, rfl⟩
set_option maxHeartbeats 1000000 in
theorem is_bad (b y : Int) (w : World) (h : (b == 0) = false) : Calls Tryd.prog 15 #[.int .i64 0, .int .i64 b, .int .i64 y, .int .i64 b] w fun e w' => e = .returned (.bool true) ∧ w = w' := by
  have h' : (b != 0) = true := by simpa [bne] using h
  go_enter Tryd.func15, Tryd.ntmps15
  go_wp2
  go_ret
  exact ⟨rfl, rfl⟩

theorem vf24 : Vf 2 4 := .inr ⟨rfl, by omega, by omega⟩
theorem vf22 : Vf 2 2 := .inr ⟨rfl, by omega, by omega⟩
theorem vf71 : Vf 7 1 := .inl ⟨rfl, by omega, by omega, by decide +kernel⟩
theorem mul22 : fmul 2 2 2 2 = 3 := by
  unfold fmul
  rw [if_neg (by omega)]
  refine rem_eq (modl_dg 2 (by omega) (by omega)) (by decide) ⟨1, ?_⟩
  rw [one_cl, show cl 2 2 = 4 from (cl_two 2 1).trans (by rw [cl_one])]; decide
theorem root73 {r : Nat} (h : LR (fQ 7 1) (fmul 7 1) 3 r) : r = 2 := by
  have hp : ∀ a e, pw (fmul 7 1) a e = pw (fun a b => a * b % 7) a e := fun a e => rfl
  have o2 : Ord (fmul 7 1) 2 3 := fun e => by
    have h3 : pw (fmul 7 1) 2 3 = 1 := by rw [hp]; decide
    rw [vf71.fld.pw_mod (show 2 < fQ 7 1 by decide) h3 e, hp]
    have : e % 3 < 3 := Nat.mod_lt _ (by omega)
    constructor
    · intro he
      have h4 : ∀ i, i < 3 → pw (fun a b => a * b % 7) 2 i = 1 → i = 0 := by decide
      exact Nat.dvd_of_mod_eq_zero (h4 _ this he)
    · intro hd; rw [Nat.mod_eq_zero_of_dvd hd]; rfl
  have l2 := h.2.2 2 (by decide) o2
  have n0 : r ≠ 0 := vf71.fld.ord_ne h.1 (by omega) h.2.1
  have n1 : r ≠ 1 := fun e => by
    subst e
    have := (h.2.1 1).1 (by rw [hp]; decide)
    omega
  omega

set_option maxHeartbeats 2000000 in
theorem alive_any (w : World) (hw : Tab w) : Calls Tryd.prog 16 #[] w fun e w' => e = .returned (.bool true) ∧ Below w.heap.size w w' := by
  have HW := Lib.hid hw
  clear hw
  go_enter Tryd.func16, Tryd.ntmps16
  go_wp2_with fail
  refine (Modulus_yes 2 4 _ HW.out vf24).mono ?_
  rintro e w1 ⟨rfl, b1⟩
  rw [show (((if (4 : Nat) = 1 then 0 else modl 4 : Nat)) : Int) = 19 from rfl, show (if (4 : Nat) = 1 then (6 : Int) else 0) = 0 from rfl]
  have W1 := Lib.hid (HW.out.below b1)
  have B1 := Lib.hid b1
  clear b1
  go_wp2_with fail
  refine (Mul_yes 2 2 2 2 _ W1.out vf22 (by decide) (by decide)).mono ?_
  rintro e w2 ⟨rfl, b2⟩
  rw [mul22]
  have W2 := Lib.hid (W1.out.below b2)
  have B2 := Lib.hid (B1.out.trans (b2.mono B1.out.size))
  clear b2
  go_wp2_with fail
  refine (Root_yes 7 1 3 _ W2.out vf71 (by omega) (by decide)).mono ?_
  rintro e w3 ⟨r, rfl, hr, b3⟩
  obtain rfl := root73 hr
  have W3 := Lib.hid (W2.out.below b3)
  have B3 := Lib.hid (B2.out.trans (b3.mono B2.out.size))
  clear b3 hr
  go_wp2_with fail
  refine (Sum_yes 2 4 5 10 _ W3.out vf24 (by omega) (by omega) (by omega) (by decide)).mono ?_
  rintro e w4 ⟨rfl, b4⟩
  rw [show ((sumF 2 5 10 : Nat) : Int) = 1 from rfl]
  have B4 := Lib.hid (B3.out.trans (b4.mono B3.out.size))
  clear b4
  go_wp2_with fail
  go_ret
  exact ⟨rfl, B4.out⟩
end Go.Proofs.YtmenkahkdcjkiaaDoor
