/- field.fieldWithRoot, Root, Sum, Inverse and Power by their meaning. -/
import Derived.Test.YtmenkahkdcjkiaaDoorProg
import Derived.Test.YtmenkahkdcjkiaaDoorBase
import Derived.Test.YtmenkahkdcjkiaaDoorFops
import Derived.Test.YtmenkahkdcjkiaaDoorRoot
import Derived.Outline
namespace Go.Proofs.YtmenkahkdcjkiaaDoor
open Go.RowKit

set_option maxHeartbeats 1000000 in
theorem fwr_form (P M k : Int) (w : World) (hw : Tab w) (h : validF P M = false) : Calls Tryd.prog 43 #[.agg #[.int .i64 P, .int .i64 M], .int .i64 k] w fun e w' => e = .returned (.tuple #[.nilIface, .int .i64 1]) ∧ Below w.heap.size w w' := by
  have HW := Lib.hid (hw.below ((Below.refl _ w).alloc (Nat.le_refl _) (.cells #[.int .i64 P, .int .i64 M] 23)))
  have B0 := Lib.hid ((Below.refl _ w).alloc (Nat.le_refl _) (.cells #[.int .i64 P, .int .i64 M] 23))
  have H := Lib.hid h
  clear h
  go_enter Tryd.func43, Tryd.ntmps43
  go_wp2_with fail
  refine (arithOf_no P M _ HW.out H.out).mono ?_
  rintro e w1 ⟨rfl, b1⟩
  have B1 := Lib.hid (B0.out.trans (b1.mono B0.out.size))
  go_wp2_with fail
  go_ret2
  exact ⟨rfl, B1.out⟩
set_option maxHeartbeats 1000000 in
theorem fwr_arg (p m : Nat) (k : Int) (w : World) (hw : Tab w) (h : Vf p m) (hk : k < 1) : Calls Tryd.prog 43 #[.agg #[.int .i64 p, .int .i64 m], .int .i64 k] w fun e w' => e = .returned (.tuple #[.nilIface, .int .i64 2]) ∧ Below w.heap.size w w' := by
  have HW := Lib.hid (hw.below ((Below.refl _ w).alloc (Nat.le_refl _) (.cells #[.int .i64 p, .int .i64 m] 23)))
  have B0 := Lib.hid ((Below.refl _ w).alloc (Nat.le_refl _) (.cells #[.int .i64 p, .int .i64 m] 23))
  have H := Lib.hid h
  clear h
  go_enter Tryd.func43, Tryd.ntmps43
  go_wp2_with fail
  refine (arithOf_yes p m _ HW.out H.out.valid).mono ?_
  rintro e w1 ⟨rfl, b1⟩
  have B1 := Lib.hid (B0.out.trans (b1.mono B0.out.size))
  go_wp2_with fail
  go_ret2
  exact ⟨rfl, B1.out⟩
set_option maxHeartbeats 1000000 in
theorem fwr_none (p m k : Nat) (w : World) (hw : Tab w) (h : Vf p m) (hk : 1 ≤ k) (hd : ¬ k ∣ fQ p m - 1) : Calls Tryd.prog 43 #[.agg #[.int .i64 p, .int .i64 m], .int .i64 k] w fun e w' => e = .returned (.tuple #[.nilIface, .int .i64 6]) ∧ Below w.heap.size w w' := by
  have HW := Lib.hid (hw.below ((Below.refl _ w).alloc (Nat.le_refl _) (.cells #[.int .i64 p, .int .i64 m] 23)))
  have B0 := Lib.hid ((Below.refl _ w).alloc (Nat.le_refl _) (.cells #[.int .i64 p, .int .i64 m] 23))
  have hq := h.q
  have H := Lib.hid h
  have m1 := meth_order
  have m2 := call_order
  obtain ⟨q, hq0⟩ : ∃ q, q = fQ p m := ⟨_, rfl⟩
  rw [← hq0] at hq hd
  have hne : (q - 1) % k ≠ 0 := fun e => hd (Nat.dvd_of_mod_eq_zero e)
  have D : (((q : Int) - 1) % (k : Int) != 0) = true := by
    have : ((q : Int) - 1) % (k : Int) = (((q - 1) % k : Nat) : Int) := by rw [Int.natCast_emod]; congr 1; omega
    rw [this]; simp; omega
  have HQ := Lib.hid hq0
  clear h hd hne hq0
  go_enter Tryd.func43, Tryd.ntmps43
  go_wp2_with fail
  refine (arithOf_yes p m _ HW.out H.out.valid).mono ?_
  rintro e w1 ⟨rfl, b1⟩
  have B1 := Lib.hid (B0.out.trans (b1.mono B0.out.size))
  rw [arith_eq]
  go_wp2_with fail
  refine (aorder_any p m _ H.out).mono ?_
  rintro e w' ⟨rfl, rfl⟩
  rw [← HQ.out]
  clear m1 m2
  go_wp2_with fail
  go_ret2
  exact ⟨rfl, B1.out⟩
set_option maxHeartbeats 1000000 in
theorem fwr_yes (p m k : Nat) (w : World) (hw : Tab w) (h : Vf p m) (hk : 1 ≤ k) (hd : k ∣ fQ p m - 1) : Calls Tryd.prog 43 #[.agg #[.int .i64 p, .int .i64 m], .int .i64 k] w fun e w' => e = .returned (.tuple #[.iface (aTy m) (.int .i64 (aDat p m)), .int .i64 0]) ∧ Below w.heap.size w w' := by
  have HW := Lib.hid (hw.below ((Below.refl _ w).alloc (Nat.le_refl _) (.cells #[.int .i64 p, .int .i64 m] 23)))
  have B0 := Lib.hid ((Below.refl _ w).alloc (Nat.le_refl _) (.cells #[.int .i64 p, .int .i64 m] 23))
  have hq := h.q
  have H := Lib.hid h
  have m1 := meth_order
  have m2 := call_order
  obtain ⟨q, hq0⟩ : ∃ q, q = fQ p m := ⟨_, rfl⟩
  rw [← hq0] at hq hd
  have he : (q - 1) % k = 0 := Nat.mod_eq_zero_of_dvd hd
  have D : (((q : Int) - 1) % (k : Int) != 0) = false := by
    have : ((q : Int) - 1) % (k : Int) = (((q - 1) % k : Nat) : Int) := by rw [Int.natCast_emod]; congr 1; omega
    rw [this, he]; rfl
  have HQ := Lib.hid hq0
  clear h hd he hq0
  go_enter Tryd.func43, Tryd.ntmps43
  go_wp2_with fail
  refine (arithOf_yes p m _ HW.out H.out.valid).mono ?_
  rintro e w1 ⟨rfl, b1⟩
  have B1 := Lib.hid (B0.out.trans (b1.mono B0.out.size))
  rw [arith_eq]
  go_wp2_with fail
  refine (aorder_any p m _ H.out).mono ?_
  rintro e w' ⟨rfl, rfl⟩
  rw [← HQ.out]
  clear m1 m2
  go_wp2_with fail
  go_ret2
  exact ⟨rfl, B1.out⟩
set_option maxHeartbeats 1000000 in
theorem Root_form (P M k : Int) (w : World) (hw : Tab w) (h : validF P M = false) : Calls Tryd.prog 30 #[.agg #[.int .i64 P, .int .i64 M], .int .i64 k] w fun e w' => e = .returned (.tuple #[.int .i64 0, .int .i64 1]) ∧ Below w.heap.size w w' := by
  have HW := Lib.hid (hw.below ((Below.refl _ w).alloc (Nat.le_refl _) (.cells #[.int .i64 P, .int .i64 M] 23)))
  have B0 := Lib.hid ((Below.refl _ w).alloc (Nat.le_refl _) (.cells #[.int .i64 P, .int .i64 M] 23))
  have H := Lib.hid h
  clear h
  go_enter Tryd.func30, Tryd.ntmps30
  go_wp2_with fail
  refine (fwr_form P M k _ HW.out H.out).mono ?_
  rintro e w1 ⟨rfl, b1⟩
  have B1 := Lib.hid (B0.out.trans (b1.mono B0.out.size))
  go_wp2_with fail
  go_ret2
  exact ⟨rfl, B1.out⟩
set_option maxHeartbeats 1000000 in
theorem Root_arg (p m : Nat) (k : Int) (w : World) (hw : Tab w) (h : Vf p m) (hk : k < 1) : Calls Tryd.prog 30 #[.agg #[.int .i64 p, .int .i64 m], .int .i64 k] w fun e w' => e = .returned (.tuple #[.int .i64 0, .int .i64 2]) ∧ Below w.heap.size w w' := by
  have HW := Lib.hid (hw.below ((Below.refl _ w).alloc (Nat.le_refl _) (.cells #[.int .i64 p, .int .i64 m] 23)))
  have B0 := Lib.hid ((Below.refl _ w).alloc (Nat.le_refl _) (.cells #[.int .i64 p, .int .i64 m] 23))
  have H := Lib.hid h
  clear h
  go_enter Tryd.func30, Tryd.ntmps30
  go_wp2_with fail
  refine (fwr_arg p m k _ HW.out H.out hk).mono ?_
  rintro e w1 ⟨rfl, b1⟩
  have B1 := Lib.hid (B0.out.trans (b1.mono B0.out.size))
  go_wp2_with fail
  go_ret2
  exact ⟨rfl, B1.out⟩
set_option maxHeartbeats 1000000 in
theorem Root_none (p m k : Nat) (w : World) (hw : Tab w) (h : Vf p m) (hk : 1 ≤ k) (hd : ¬ k ∣ fQ p m - 1) : Calls Tryd.prog 30 #[.agg #[.int .i64 p, .int .i64 m], .int .i64 k] w fun e w' => e = .returned (.tuple #[.int .i64 0, .int .i64 6]) ∧ Below w.heap.size w w' := by
  have HW := Lib.hid (hw.below ((Below.refl _ w).alloc (Nat.le_refl _) (.cells #[.int .i64 p, .int .i64 m] 23)))
  have B0 := Lib.hid ((Below.refl _ w).alloc (Nat.le_refl _) (.cells #[.int .i64 p, .int .i64 m] 23))
  have H := Lib.hid h
  have HD := Lib.hid hd
  clear h hd
  go_enter Tryd.func30, Tryd.ntmps30
  go_wp2_with fail
  refine (fwr_none p m k _ HW.out H.out hk HD.out).mono ?_
  rintro e w1 ⟨rfl, b1⟩
  have B1 := Lib.hid (B0.out.trans (b1.mono B0.out.size))
  go_wp2_with fail
  go_ret2
  exact ⟨rfl, B1.out⟩
set_option maxHeartbeats 1000000 in
theorem Root_yes (p m k : Nat) (w : World) (hw : Tab w) (h : Vf p m) (hk : 1 ≤ k) (hd : k ∣ fQ p m - 1) : Calls Tryd.prog 30 #[.agg #[.int .i64 p, .int .i64 m], .int .i64 k] w fun e w' => ∃ r : Nat, e = .returned (.tuple #[.int .i64 r, .int .i64 0]) ∧ LR (fQ p m) (fmul p m) k r ∧ Below w.heap.size w w' := by
  have HW := Lib.hid (hw.below ((Below.refl _ w).alloc (Nat.le_refl _) (.cells #[.int .i64 p, .int .i64 m] 23)))
  have B0 := Lib.hid ((Below.refl _ w).alloc (Nat.le_refl _) (.cells #[.int .i64 p, .int .i64 m] 23))
  have H := Lib.hid h
  have HD := Lib.hid hd
  clear h hd
  go_enter Tryd.func30, Tryd.ntmps30
  go_wp2_with fail
  refine (fwr_yes p m k _ HW.out H.out hk HD.out).mono ?_
  rintro e w1 ⟨rfl, b1⟩
  have HW1 := Lib.hid (HW.out.below b1)
  have B1 := Lib.hid (B0.out.trans (b1.mono B0.out.size))
  go_wp2_with fail
  refine (least_any p m k _ HW1.out H.out hk HD.out).mono ?_
  rintro e w2 ⟨r, rfl, hr, b2⟩
  have B2 := Lib.hid (B1.out.trans (b2.mono B1.out.size))
  have HR := Lib.hid hr
  clear hr
  go_wp2_with fail
  go_ret2
  exact ⟨r, rfl, HR.out, B2.out⟩
set_option maxHeartbeats 1000000 in
theorem Sum_form (P M k n : Int) (w : World) (hw : Tab w) (h : validF P M = false) : Calls Tryd.prog 31 #[.agg #[.int .i64 P, .int .i64 M], .int .i64 k, .int .i64 n] w fun e w' => e = .returned (.tuple #[.int .i64 0, .int .i64 1]) ∧ Below w.heap.size w w' := by
  have HW := Lib.hid (hw.below ((Below.refl _ w).alloc (Nat.le_refl _) (.cells #[.int .i64 P, .int .i64 M] 23)))
  have B0 := Lib.hid ((Below.refl _ w).alloc (Nat.le_refl _) (.cells #[.int .i64 P, .int .i64 M] 23))
  have H := Lib.hid h
  clear h
  go_enter Tryd.func31, Tryd.ntmps31
  go_wp2_with fail
  refine (valid_any P M _ HW.out).mono ?_
  rintro e w0 ⟨rfl, b0⟩
  rw [H.out]
  have HW1 := Lib.hid (HW.out.below b0)
  have B1 := Lib.hid (B0.out.trans (b0.mono B0.out.size))
  obtain ⟨hc, hf⟩ := bcell b0
  go_wp2_with fail
  refine (fwr_form P M k _ HW1.out H.out).mono ?_
  rintro e w1 ⟨rfl, b1⟩
  have B2 := Lib.hid (B1.out.trans (b1.mono B1.out.size))
  go_wp2_with fail
  go_ret2
  exact ⟨rfl, B2.out⟩
set_option maxHeartbeats 1000000 in
theorem Sum_neg (p m : Nat) (k n : Int) (w : World) (hw : Tab w) (h : Vf p m) (hn : n < 0) : Calls Tryd.prog 31 #[.agg #[.int .i64 p, .int .i64 m], .int .i64 k, .int .i64 n] w fun e w' => e = .returned (.tuple #[.int .i64 0, .int .i64 2]) ∧ Below w.heap.size w w' := by
  have HW := Lib.hid (hw.below ((Below.refl _ w).alloc (Nat.le_refl _) (.cells #[.int .i64 p, .int .i64 m] 23)))
  have B0 := Lib.hid ((Below.refl _ w).alloc (Nat.le_refl _) (.cells #[.int .i64 p, .int .i64 m] 23))
  have H := Lib.hid h
  clear h
  go_enter Tryd.func31, Tryd.ntmps31
  go_wp2_with fail
  refine (valid_any p m _ HW.out).mono ?_
  rintro e w0 ⟨rfl, b0⟩
  rw [H.out.valid]
  have B1 := Lib.hid (B0.out.trans (b0.mono B0.out.size))
  go_wp2_with fail
  go_ret2
  exact ⟨rfl, B1.out⟩
set_option maxHeartbeats 1000000 in
theorem Sum_arg (p m n : Nat) (k : Int) (w : World) (hw : Tab w) (h : Vf p m) (hk : k < 1) : Calls Tryd.prog 31 #[.agg #[.int .i64 p, .int .i64 m], .int .i64 k, .int .i64 n] w fun e w' => e = .returned (.tuple #[.int .i64 0, .int .i64 2]) ∧ Below w.heap.size w w' := by
  have HW := Lib.hid (hw.below ((Below.refl _ w).alloc (Nat.le_refl _) (.cells #[.int .i64 p, .int .i64 m] 23)))
  have B0 := Lib.hid ((Below.refl _ w).alloc (Nat.le_refl _) (.cells #[.int .i64 p, .int .i64 m] 23))
  have H := Lib.hid h
  clear h
  go_enter Tryd.func31, Tryd.ntmps31
  go_wp2_with fail
  refine (valid_any p m _ HW.out).mono ?_
  rintro e w0 ⟨rfl, b0⟩
  rw [H.out.valid]
  have HW1 := Lib.hid (HW.out.below b0)
  have B1 := Lib.hid (B0.out.trans (b0.mono B0.out.size))
  obtain ⟨hc, hf⟩ := bcell b0
  go_wp2_with fail
  refine (fwr_arg p m k _ HW1.out H.out hk).mono ?_
  rintro e w1 ⟨rfl, b1⟩
  have B2 := Lib.hid (B1.out.trans (b1.mono B1.out.size))
  go_wp2_with fail
  go_ret2
  exact ⟨rfl, B2.out⟩
set_option maxHeartbeats 1000000 in
theorem Sum_none (p m k n : Nat) (w : World) (hw : Tab w) (h : Vf p m) (hk : 1 ≤ k) (hd : ¬ k ∣ fQ p m - 1) : Calls Tryd.prog 31 #[.agg #[.int .i64 p, .int .i64 m], .int .i64 k, .int .i64 n] w fun e w' => e = .returned (.tuple #[.int .i64 0, .int .i64 6]) ∧ Below w.heap.size w w' := by
  have HW := Lib.hid (hw.below ((Below.refl _ w).alloc (Nat.le_refl _) (.cells #[.int .i64 p, .int .i64 m] 23)))
  have B0 := Lib.hid ((Below.refl _ w).alloc (Nat.le_refl _) (.cells #[.int .i64 p, .int .i64 m] 23))
  have H := Lib.hid h
  have HD := Lib.hid hd
  clear h hd
  go_enter Tryd.func31, Tryd.ntmps31
  go_wp2_with fail
  refine (valid_any p m _ HW.out).mono ?_
  rintro e w0 ⟨rfl, b0⟩
  rw [H.out.valid]
  have HW1 := Lib.hid (HW.out.below b0)
  have B1 := Lib.hid (B0.out.trans (b0.mono B0.out.size))
  obtain ⟨hc, hf⟩ := bcell b0
  go_wp2_with fail
  refine (fwr_none p m k _ HW1.out H.out hk HD.out).mono ?_
  rintro e w1 ⟨rfl, b1⟩
  have B2 := Lib.hid (B1.out.trans (b1.mono B1.out.size))
  go_wp2_with fail
  go_ret2
  exact ⟨rfl, B2.out⟩
/-- Sum where there is a root -/
def sumF (p k n : Nat) : Nat := if n % k = 0 then k % p else 0
set_option maxHeartbeats 1000000 in
theorem Sum_yes (p m k n : Nat) (w : World) (hw : Tab w) (h : Vf p m) (hk : 1 ≤ k) (hk2 : k ≤ 9223372036854775807) (hn2 : n ≤ 9223372036854775807) (hd : k ∣ fQ p m - 1) : Calls Tryd.prog 31 #[.agg #[.int .i64 p, .int .i64 m], .int .i64 k, .int .i64 n] w fun e w' => e = .returned (.tuple #[.int .i64 (sumF p k n : Nat), .int .i64 0]) ∧ Below w.heap.size w w' := by
  have HW := Lib.hid (hw.below ((Below.refl _ w).alloc (Nat.le_refl _) (.cells #[.int .i64 p, .int .i64 m] 23)))
  have B0 := Lib.hid ((Below.refl _ w).alloc (Nat.le_refl _) (.cells #[.int .i64 p, .int .i64 m] 23))
  have hp2 : 2 ≤ p := by rcases h with ⟨_, h, _⟩ | ⟨h, _⟩ <;> omega
  have H := Lib.hid h
  have HD := Lib.hid hd
  clear h hd
  have hq : (k : Int) % (p : Int) = ((k % p : Nat) : Int) := (Int.natCast_emod k p).symm
  by_cases hnk : n % k = 0
  · have D : ((n : Int) % (k : Int) != 0) = false := by rw [← Int.natCast_emod, hnk]; rfl
    have HS := Lib.hid (show sumF p k n = k % p from if_pos hnk)
    clear hnk
    go_enter Tryd.func31, Tryd.ntmps31
    go_wp2_with fail
    refine (valid_any p m _ HW.out).mono ?_
    rintro e w0 ⟨rfl, b0⟩
    rw [H.out.valid]
    have HW1 := Lib.hid (HW.out.below b0)
    have B1 := Lib.hid (B0.out.trans (b0.mono B0.out.size))
    have hB := ((Blk.new w 23 #[.int .i64 p, .int .i64 m]).below b0)
    obtain ⟨hc, hf⟩ := bcell b0
    go_wp2_with fail
    refine (fwr_yes p m k _ HW1.out H.out hk HD.out).mono ?_
    rintro e w1 ⟨rfl, b1⟩
    have B2 := Lib.hid (B1.out.trans (b1.mono B1.out.size))
    have c0 : w1.cell? ⟨w.heap.size, 0, none⟩ = some (.int .i64 p) := (hB.below b1).cell 0
    clear hc hf hB
    go_wp2_with fail
    go_ret2
    exact ⟨by rw [HS.out, ← hq]; rfl, B2.out⟩
  · have D : ((n : Int) % (k : Int) != 0) = true := by rw [← Int.natCast_emod]; simp; omega
    have HS := Lib.hid (show sumF p k n = 0 from if_neg hnk)
    clear hnk hq
    go_enter Tryd.func31, Tryd.ntmps31
    go_wp2_with fail
    refine (valid_any p m _ HW.out).mono ?_
    rintro e w0 ⟨rfl, b0⟩
    rw [H.out.valid]
    have HW1 := Lib.hid (HW.out.below b0)
    have B1 := Lib.hid (B0.out.trans (b0.mono B0.out.size))
    obtain ⟨hc, hf⟩ := bcell b0
    go_wp2_with fail
    refine (fwr_yes p m k _ HW1.out H.out hk HD.out).mono ?_
    rintro e w1 ⟨rfl, b1⟩
    have B2 := Lib.hid (B1.out.trans (b1.mono B1.out.size))
    go_wp2_with fail
    go_ret2
    exact ⟨by rw [HS.out]; rfl, B2.out⟩
end Go.Proofs.YtmenkahkdcjkiaaDoor
