/- field.Inverse and Power by their meaning. -/
import Derived.Test.YtmenkahkdcjkiaaDoorProg
import Derived.Test.YtmenkahkdcjkiaaDoorBase
import Derived.Test.YtmenkahkdcjkiaaDoorFops
namespace Go.Proofs.YtmenkahkdcjkiaaDoor
open Go.RowKit

set_option maxHeartbeats 1000000 in
theorem Inverse_form (P M a : Int) (w : World) (hw : Tab w) (h : validF P M = false) : Calls Tryd.prog 26 #[.agg #[.int .i64 P, .int .i64 M], .int .i64 a] w fun e w' => e = .returned (.tuple #[.int .i64 0, .int .i64 1]) ∧ Below w.heap.size w w' := by
  have HW := Lib.hid (hw.below ((Below.refl _ w).alloc (Nat.le_refl _) (.cells #[.int .i64 P, .int .i64 M] 23)))
  have B0 := Lib.hid ((Below.refl _ w).alloc (Nat.le_refl _) (.cells #[.int .i64 P, .int .i64 M] 23))
  have H := Lib.hid h
  clear h
  go_enter Tryd.func26, Tryd.ntmps26
  go_wp2_with fail
  refine (fieldOf_form P M a a _ HW.out H.out).mono ?_
  rintro e w1 ⟨rfl, b1⟩
  have B1 := Lib.hid (B0.out.trans (b1.mono B0.out.size))
  go_wp2_with fail
  go_ret2
  exact ⟨rfl, B1.out⟩
set_option maxHeartbeats 1000000 in
theorem Inverse_arg (p m : Nat) (a : Int) (w : World) (hw : Tab w) (h : Vf p m) (ha : ¬ isEl p m a) : Calls Tryd.prog 26 #[.agg #[.int .i64 p, .int .i64 m], .int .i64 a] w fun e w' => e = .returned (.tuple #[.int .i64 0, .int .i64 2]) ∧ Below w.heap.size w w' := by
  have HW := Lib.hid (hw.below ((Below.refl _ w).alloc (Nat.le_refl _) (.cells #[.int .i64 p, .int .i64 m] 23)))
  have B0 := Lib.hid ((Below.refl _ w).alloc (Nat.le_refl _) (.cells #[.int .i64 p, .int .i64 m] 23))
  have H := Lib.hid h
  have HA := Lib.hid (show ¬ (isEl p m a ∧ isEl p m a) from fun hh => ha hh.1)
  clear h ha
  go_enter Tryd.func26, Tryd.ntmps26
  go_wp2_with fail
  refine (fieldOf_arg p m a a _ HW.out H.out HA.out).mono ?_
  rintro e w1 ⟨rfl, b1⟩
  have B1 := Lib.hid (B0.out.trans (b1.mono B0.out.size))
  go_wp2_with fail
  go_ret2
  exact ⟨rfl, B1.out⟩
set_option maxHeartbeats 1000000 in
theorem Power_form (P M a k : Int) (w : World) (hw : Tab w) (h : validF P M = false) : Calls Tryd.prog 27 #[.agg #[.int .i64 P, .int .i64 M], .int .i64 a, .int .i64 k] w fun e w' => e = .returned (.tuple #[.int .i64 0, .int .i64 1]) ∧ Below w.heap.size w w' := by
  have HW := Lib.hid (hw.below ((Below.refl _ w).alloc (Nat.le_refl _) (.cells #[.int .i64 P, .int .i64 M] 23)))
  have B0 := Lib.hid ((Below.refl _ w).alloc (Nat.le_refl _) (.cells #[.int .i64 P, .int .i64 M] 23))
  have H := Lib.hid h
  clear h
  go_enter Tryd.func27, Tryd.ntmps27
  go_wp2_with fail
  refine (fieldOf_form P M a a _ HW.out H.out).mono ?_
  rintro e w1 ⟨rfl, b1⟩
  have B1 := Lib.hid (B0.out.trans (b1.mono B0.out.size))
  go_wp2_with fail
  go_ret2
  exact ⟨rfl, B1.out⟩
set_option maxHeartbeats 1000000 in
theorem Power_arg (p m : Nat) (a k : Int) (w : World) (hw : Tab w) (h : Vf p m) (ha : ¬ isEl p m a) : Calls Tryd.prog 27 #[.agg #[.int .i64 p, .int .i64 m], .int .i64 a, .int .i64 k] w fun e w' => e = .returned (.tuple #[.int .i64 0, .int .i64 2]) ∧ Below w.heap.size w w' := by
  have HW := Lib.hid (hw.below ((Below.refl _ w).alloc (Nat.le_refl _) (.cells #[.int .i64 p, .int .i64 m] 23)))
  have B0 := Lib.hid ((Below.refl _ w).alloc (Nat.le_refl _) (.cells #[.int .i64 p, .int .i64 m] 23))
  have H := Lib.hid h
  have HA := Lib.hid (show ¬ (isEl p m a ∧ isEl p m a) from fun hh => ha hh.1)
  clear h ha
  go_enter Tryd.func27, Tryd.ntmps27
  go_wp2_with fail
  refine (fieldOf_arg p m a a _ HW.out H.out HA.out).mono ?_
  rintro e w1 ⟨rfl, b1⟩
  have B1 := Lib.hid (B0.out.trans (b1.mono B0.out.size))
  go_wp2_with fail
  go_ret2
  exact ⟨rfl, B1.out⟩
set_option maxHeartbeats 1000000 in
theorem Inverse_zero (p m : Nat) (w : World) (hw : Tab w) (h : Vf p m) : Calls Tryd.prog 26 #[.agg #[.int .i64 p, .int .i64 m], .int .i64 0] w fun e w' => e = .returned (.tuple #[.int .i64 0, .int .i64 6]) ∧ Below w.heap.size w w' := by
  have HW := Lib.hid (hw.below ((Below.refl _ w).alloc (Nat.le_refl _) (.cells #[.int .i64 p, .int .i64 m] 23)))
  have B0 := Lib.hid ((Below.refl _ w).alloc (Nat.le_refl _) (.cells #[.int .i64 p, .int .i64 m] 23))
  have H := Lib.hid h
  have HA := Lib.hid (show 0 < fQ p m by have := h.q; omega)
  clear h
  go_enter Tryd.func26, Tryd.ntmps26
  go_wp2_with fail
  refine (fieldOf_yes p m 0 0 _ HW.out H.out HA.out HA.out).mono ?_
  rintro e w1 ⟨rfl, b1⟩
  have B1 := Lib.hid (B0.out.trans (b1.mono B0.out.size))
  go_wp2_with fail
  go_ret2
  exact ⟨rfl, B1.out⟩
set_option maxHeartbeats 1000000 in
theorem Inverse_yes (p m a : Nat) (w : World) (hw : Tab w) (h : Vf p m) (ha : a < fQ p m) (h0 : 0 < a) : Calls Tryd.prog 26 #[.agg #[.int .i64 p, .int .i64 m], .int .i64 a] w fun e w' => e = .returned (.tuple #[.int .i64 (pw (fmul p m) a (fQ p m - 2) : Nat), .int .i64 0]) ∧ Below w.heap.size w w' := by
  have HW := Lib.hid (hw.below ((Below.refl _ w).alloc (Nat.le_refl _) (.cells #[.int .i64 p, .int .i64 m] 23)))
  have B0 := Lib.hid ((Below.refl _ w).alloc (Nat.le_refl _) (.cells #[.int .i64 p, .int .i64 m] 23))
  have hq := h.q
  have H := Lib.hid h
  have HA := Lib.hid ha
  have m1 := meth_order
  have m2 := call_order
  have D : ((a : Int) == 0) = false := by simp; omega
  obtain ⟨q, hq0⟩ : ∃ q, q = fQ p m := ⟨_, rfl⟩
  rw [← hq0] at hq
  have HQ := Lib.hid hq0
  clear h ha hq0
  go_enter Tryd.func26, Tryd.ntmps26
  go_wp2_with fail
  refine (fieldOf_yes p m a a _ HW.out H.out HA.out HA.out).mono ?_
  rintro e w1 ⟨rfl, b1⟩
  have HW1 := Lib.hid (HW.out.below b1)
  have B1 := Lib.hid (B0.out.trans (b1.mono B0.out.size))
  go_wp2_with fail
  refine (aorder_any p m _ H.out).mono ?_
  rintro e w' ⟨rfl, rfl⟩
  rw [← HQ.out]
  have en : (q : Int) - 2 = ((q - 2 : Nat) : Int) := by omega
  clear m1 m2
  go_wp2_with fail
  refine (power_any p m a (q - 2) _ HW1.out H.out HA.out (by omega)).mono ?_
  rintro e w' ⟨rfl, rfl⟩
  clear en
  go_wp2_with fail
  go_ret2
  exact ⟨by rw [← HQ.out]; rfl, B1.out⟩
set_option maxHeartbeats 1000000 in
theorem Power_neg (p m a : Nat) (k : Int) (w : World) (hw : Tab w) (h : Vf p m) (ha : a < fQ p m) (hk : k < 0) : Calls Tryd.prog 27 #[.agg #[.int .i64 p, .int .i64 m], .int .i64 a, .int .i64 k] w fun e w' => e = .returned (.tuple #[.int .i64 0, .int .i64 2]) ∧ Below w.heap.size w w' := by
  have HW := Lib.hid (hw.below ((Below.refl _ w).alloc (Nat.le_refl _) (.cells #[.int .i64 p, .int .i64 m] 23)))
  have B0 := Lib.hid ((Below.refl _ w).alloc (Nat.le_refl _) (.cells #[.int .i64 p, .int .i64 m] 23))
  have H := Lib.hid h
  have HA := Lib.hid ha
  clear h ha
  go_enter Tryd.func27, Tryd.ntmps27
  go_wp2_with fail
  refine (fieldOf_yes p m a a _ HW.out H.out HA.out HA.out).mono ?_
  rintro e w1 ⟨rfl, b1⟩
  have B1 := Lib.hid (B0.out.trans (b1.mono B0.out.size))
  go_wp2_with fail
  go_ret2
  exact ⟨rfl, B1.out⟩
set_option maxHeartbeats 1000000 in
theorem Power_yes (p m a k : Nat) (w : World) (hw : Tab w) (h : Vf p m) (ha : a < fQ p m) (hk : k ≤ 9223372036854775807) : Calls Tryd.prog 27 #[.agg #[.int .i64 p, .int .i64 m], .int .i64 a, .int .i64 k] w fun e w' => e = .returned (.tuple #[.int .i64 (pw (fmul p m) a k : Nat), .int .i64 0]) ∧ Below w.heap.size w w' := by
  have HW := Lib.hid (hw.below ((Below.refl _ w).alloc (Nat.le_refl _) (.cells #[.int .i64 p, .int .i64 m] 23)))
  have B0 := Lib.hid ((Below.refl _ w).alloc (Nat.le_refl _) (.cells #[.int .i64 p, .int .i64 m] 23))
  have H := Lib.hid h
  have HA := Lib.hid ha
  clear h ha
  go_enter Tryd.func27, Tryd.ntmps27
  go_wp2_with fail
  refine (fieldOf_yes p m a a _ HW.out H.out HA.out HA.out).mono ?_
  rintro e w1 ⟨rfl, b1⟩
  have HW1 := Lib.hid (HW.out.below b1)
  have B1 := Lib.hid (B0.out.trans (b1.mono B0.out.size))
  go_wp2_with fail
  refine (power_any p m a k _ HW1.out H.out HA.out hk).mono ?_
  rintro e w' ⟨rfl, rfl⟩
  go_wp2_with fail
  go_ret2
  exact ⟨rfl, B1.out⟩
end Go.Proofs.YtmenkahkdcjkiaaDoor
