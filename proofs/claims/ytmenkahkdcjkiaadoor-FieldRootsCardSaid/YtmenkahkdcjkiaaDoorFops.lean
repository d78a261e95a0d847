/- field's exported functions Order, Modulus, Add, Sub, Mul, Inverse, Power by their meaning. -/
import Derived.Test.YtmenkahkdcjkiaaDoorProg
import Derived.Test.YtmenkahkdcjkiaaDoorBase
import Derived.Test.YtmenkahkdcjkiaaDoorAri
import Derived.Test.YtmenkahkdcjkiaaDoorFval
import Derived.Test.YtmenkahkdcjkiaaDoorFof
import Derived.Outline
namespace Go.Proofs.YtmenkahkdcjkiaaDoor
open Go.RowKit

/-- what power keeps from round to round -/
def pfit (p m a0 k0 c x k : Nat) : Prop := c < fQ p m ∧ x < fQ p m ∧ fmul p m c (pw (fmul p m) x k) = pw (fmul p m) a0 k0
theorem pfit_start {p m a k : Nat} (h : Vf p m) (ha : a < fQ p m) : pfit p m a k 1 a k := ⟨by have := h.q; omega, ha, h.fld.one_mul (h.fld.pw_lt ha k)⟩
theorem pfit_odd {p m a0 k0 c x k : Nat} (h : Vf p m) (hp : pfit p m a0 k0 c x k) (hk : k % 2 = 1) : pfit p m a0 k0 (fmul p m c x) (fmul p m x x) (k / 2) := by
  obtain ⟨hc, hx, e⟩ := hp
  have F := h.fld
  have hxx := F.mul_lt x x hx hx
  refine ⟨F.mul_lt _ _ hc hx, hxx, ?_⟩
  rw [F.mul_assoc _ _ _ hc hx (F.pw_lt hxx _), ← e, F.pw_half hx k, if_pos hk]
theorem pfit_even {p m a0 k0 c x k : Nat} (h : Vf p m) (hp : pfit p m a0 k0 c x k) (hk : ¬ k % 2 = 1) : pfit p m a0 k0 c (fmul p m x x) (k / 2) := by
  obtain ⟨hc, hx, e⟩ := hp
  have F := h.fld
  have hxx := F.mul_lt x x hx hx
  refine ⟨hc, hxx, ?_⟩
  rw [← e, F.pw_half hx k, if_neg hk, F.one_mul (F.pw_lt hxx _)]
theorem pfit_end {p m a0 k0 c x : Nat} (h : Vf p m) (hp : pfit p m a0 k0 c x 0) : pw (fmul p m) a0 k0 = c := by
  obtain ⟨hc, hx, e⟩ := hp
  rw [← e]; exact h.fld.mul_one c hc

set_option maxHeartbeats 1000000 in
theorem power_any (p m a0 k0 : Nat) (w : World) (hw : Tab w) (h : Vf p m) (ha : a0 < fQ p m) (hk0 : k0 ≤ 9223372036854775807) : Calls Tryd.prog 42 #[.iface (aTy m) (.int .i64 (aDat p m)), .int .i64 a0, .int .i64 k0] w fun e w' => e = .returned (.int .i64 (pw (fmul p m) a0 k0 : Nat)) ∧ w = w' := by
  have m1 := meth_mul
  have m2 := call_mul
  have H := Lib.hid h
  have HA := Lib.hid ha
  have HW := Lib.hid hw
  clear h ha hw
  go_enter Tryd.func42, Tryd.ntmps42
  go_wp2_with fail
  go_loop [1, 2, 7] (fun av kv cv => ∃ x k c : Nat, av = .int .i64 x ∧ kv = .int .i64 k ∧ cv = .int .i64 c ∧ k ≤ k0 ∧ Hid (pfit p m a0 k0 c x k)) (fun _ kv _ => (intOf kv).toNat)
  case atStart => exact ⟨a0, k0, 1, rfl, rfl, rfl, Nat.le_refl _, Lib.hid (pfit_start H.out HA.out)⟩
  case round =>
    obtain ⟨x, k, c, rfl, rfl, rfl, hk, hf⟩ := hrel
    by_cases h0 : k = 0
    · subst h0
      have HE := Lib.hid (pfit_end H.out hf.out)
      go_wp2_with fail
      go_ret
      exact ⟨ret_int (by rw [HE.out]), rfl⟩
    · have h0' : 0 < k := by omega
      have A := and64 k (by omega)
      by_cases hbit : k % 2 = 1
      · have HN := Lib.hid (pfit_odd H.out hf.out hbit)
        go_wp2_with fail
        refine (amul_any p m c x _ H.out hf.out.1 hf.out.2.1 HW.out).mono ?_
        rintro e w' ⟨rfl, rfl⟩
        go_wp2_with fail
        refine (amul_any p m x x _ H.out hf.out.2.1 hf.out.2.1 HW.out).mono ?_
        rintro e w' ⟨rfl, rfl⟩
        go_wp2_with fail
        go_round
        case rel => exact ⟨_, k / 2, _, rfl, by go_num, rfl, by omega, HN⟩
        case measure => simp [intOf]; omega
      · have hbit' : k % 2 = 0 := by omega
        have HN := Lib.hid (pfit_even H.out hf.out hbit)
        clear hbit
        go_wp2_with fail
        refine (amul_any p m x x _ H.out hf.out.2.1 hf.out.2.1 HW.out).mono ?_
        rintro e w' ⟨rfl, rfl⟩
        go_wp2_with fail
        go_round
        case rel => exact ⟨_, k / 2, _, rfl, by go_num, rfl, by omega, HN⟩
        case measure => simp [intOf]; omega

set_option maxHeartbeats 1000000 in
theorem Order_no (P M : Int) (w : World) (hw : Tab w) (h : validF P M = false) : Calls Tryd.prog 14 #[.agg #[.int .i64 P, .int .i64 M]] w fun e w' => e = .returned (.int .i64 0) ∧ Below w.heap.size w w' := by
  have HW := Lib.hid (hw.below ((Below.refl _ w).alloc (Nat.le_refl _) (.cells #[.int .i64 P, .int .i64 M] 23)))
  have B0 := Lib.hid ((Below.refl _ w).alloc (Nat.le_refl _) (.cells #[.int .i64 P, .int .i64 M] 23))
  have H := Lib.hid h
  clear h
  go_enter Tryd.func14, Tryd.ntmps14
  go_wp2_with fail
  refine (arithOf_no P M _ HW.out H.out).mono ?_
  rintro e w1 ⟨rfl, b1⟩
  have B1 := Lib.hid (B0.out.trans (b1.mono B0.out.size))
  go_wp2_with fail
  go_ret
  exact ⟨rfl, B1.out⟩
set_option maxHeartbeats 1000000 in
theorem Order_yes (p m : Nat) (w : World) (hw : Tab w) (h : Vf p m) : Calls Tryd.prog 14 #[.agg #[.int .i64 p, .int .i64 m]] w fun e w' => e = .returned (.int .i64 (fQ p m : Nat)) ∧ Below w.heap.size w w' := by
  have HW := Lib.hid (hw.below ((Below.refl _ w).alloc (Nat.le_refl _) (.cells #[.int .i64 p, .int .i64 m] 23)))
  have B0 := Lib.hid ((Below.refl _ w).alloc (Nat.le_refl _) (.cells #[.int .i64 p, .int .i64 m] 23))
  have H := Lib.hid h
  have m1 := meth_order
  have m2 := call_order
  clear h
  go_enter Tryd.func14, Tryd.ntmps14
  go_wp2_with fail
  refine (arithOf_yes p m _ HW.out H.out.valid).mono ?_
  rintro e w1 ⟨rfl, b1⟩
  have B1 := Lib.hid (B0.out.trans (b1.mono B0.out.size))
  rw [arith_eq]
  go_wp2_with fail
  refine (aorder_any p m _ H.out).mono ?_
  rintro e w' ⟨rfl, rfl⟩
  go_wp2_with fail
  go_ret
  exact ⟨rfl, B1.out⟩
set_option maxHeartbeats 1000000 in
theorem Modulus_no (P M : Int) (w : World) (hw : Tab w) (h : validF P M = false) : Calls Tryd.prog 12 #[.agg #[.int .i64 P, .int .i64 M]] w fun e w' => e = .returned (.tuple #[.int .i64 0, .int .i64 1]) ∧ Below w.heap.size w w' := by
  have HW := Lib.hid (hw.below ((Below.refl _ w).alloc (Nat.le_refl _) (.cells #[.int .i64 P, .int .i64 M] 23)))
  have B0 := Lib.hid ((Below.refl _ w).alloc (Nat.le_refl _) (.cells #[.int .i64 P, .int .i64 M] 23))
  have H := Lib.hid h
  clear h
  go_enter Tryd.func12, Tryd.ntmps12
  go_wp2_with fail
  refine (valid_any P M _ HW.out).mono ?_
  rintro e w1 ⟨rfl, b1⟩
  rw [H.out]
  have B1 := Lib.hid (B0.out.trans (b1.mono B0.out.size))
  go_wp2_with fail
  go_ret2
  exact ⟨rfl, B1.out⟩
set_option maxHeartbeats 1000000 in
theorem Modulus_yes (p m : Nat) (w : World) (hw : Tab w) (h : Vf p m) : Calls Tryd.prog 12 #[.agg #[.int .i64 p, .int .i64 m]] w fun e w' => e = .returned (.tuple #[.int .i64 (if m = 1 then 0 else modl m : Nat), .int .i64 (if m = 1 then 6 else 0)]) ∧ Below w.heap.size w w' := by
  have HW := Lib.hid (hw.below ((Below.refl _ w).alloc (Nat.le_refl _) (.cells #[.int .i64 p, .int .i64 m] 23)))
  have B0 := Lib.hid ((Below.refl _ w).alloc (Nat.le_refl _) (.cells #[.int .i64 p, .int .i64 m] 23))
  have hm : m ≤ 16 := by rcases h with ⟨rfl, _⟩ | ⟨_, _, h⟩ <;> omega
  have H := Lib.hid h
  clear h
  go_enter Tryd.func12, Tryd.ntmps12
  go_wp2_with fail
  refine (valid_any p m _ HW.out).mono ?_
  rintro e w1 ⟨rfl, b1⟩
  rw [H.out.valid]
  have B1 := Lib.hid (B0.out.trans (b1.mono B0.out.size))
  obtain ⟨hc, hf⟩ := bcell b1
  have g := (HW.out.below b1).1 m (by omega)
  by_cases h1 : m = 1
  · subst h1
    go_wp2_with fail
    go_ret2
    exact ⟨rfl, B1.out⟩
  · have h1' : ((m : Int) == 1) = false := by simp; omega
    have HN := Lib.hid h1
    clear h1 hc hf
    have c1 : w1.cell? ⟨w.heap.size, 1, none⟩ = some (.int .i64 m) := ((Blk.new w 23 #[.int .i64 p, .int .i64 m]).below b1).cell 1
    go_wp2_with fail
    go_ret2
    exact ⟨rfl, B1.out⟩
set_option maxHeartbeats 1000000 in
theorem Add_form (P M a b : Int) (w : World) (hw : Tab w) (h : validF P M = false) : Calls Tryd.prog 17 #[.agg #[.int .i64 P, .int .i64 M], .int .i64 a, .int .i64 b] w fun e w' => e = .returned (.tuple #[.int .i64 0, .int .i64 1]) ∧ Below w.heap.size w w' := by
  have HW := Lib.hid (hw.below ((Below.refl _ w).alloc (Nat.le_refl _) (.cells #[.int .i64 P, .int .i64 M] 23)))
  have B0 := Lib.hid ((Below.refl _ w).alloc (Nat.le_refl _) (.cells #[.int .i64 P, .int .i64 M] 23))
  have H := Lib.hid h
  clear h
  go_enter Tryd.func17, Tryd.ntmps17
  go_wp2_with fail
  refine (fieldOf_form P M a b _ HW.out H.out).mono ?_
  rintro e w1 ⟨rfl, b1⟩
  have B1 := Lib.hid (B0.out.trans (b1.mono B0.out.size))
  go_wp2_with fail
  go_ret2
  exact ⟨rfl, B1.out⟩
set_option maxHeartbeats 1000000 in
theorem Add_arg (p m : Nat) (a b : Int) (w : World) (hw : Tab w) (h : Vf p m) (hab : ¬ (isEl p m a ∧ isEl p m b)) : Calls Tryd.prog 17 #[.agg #[.int .i64 p, .int .i64 m], .int .i64 a, .int .i64 b] w fun e w' => e = .returned (.tuple #[.int .i64 0, .int .i64 2]) ∧ Below w.heap.size w w' := by
  have HW := Lib.hid (hw.below ((Below.refl _ w).alloc (Nat.le_refl _) (.cells #[.int .i64 p, .int .i64 m] 23)))
  have B0 := Lib.hid ((Below.refl _ w).alloc (Nat.le_refl _) (.cells #[.int .i64 p, .int .i64 m] 23))
  have H := Lib.hid h
  have HAB := Lib.hid hab
  clear h hab
  go_enter Tryd.func17, Tryd.ntmps17
  go_wp2_with fail
  refine (fieldOf_arg p m a b _ HW.out H.out HAB.out).mono ?_
  rintro e w1 ⟨rfl, b1⟩
  have B1 := Lib.hid (B0.out.trans (b1.mono B0.out.size))
  go_wp2_with fail
  go_ret2
  exact ⟨rfl, B1.out⟩
set_option maxHeartbeats 1000000 in
theorem Add_yes (p m a b : Nat) (w : World) (hw : Tab w) (h : Vf p m) (ha : a < fQ p m) (hb : b < fQ p m) : Calls Tryd.prog 17 #[.agg #[.int .i64 p, .int .i64 m], .int .i64 a, .int .i64 b] w fun e w' => e = .returned (.tuple #[.int .i64 (fadd p m a b : Nat), .int .i64 0]) ∧ Below w.heap.size w w' := by
  have HW := Lib.hid (hw.below ((Below.refl _ w).alloc (Nat.le_refl _) (.cells #[.int .i64 p, .int .i64 m] 23)))
  have B0 := Lib.hid ((Below.refl _ w).alloc (Nat.le_refl _) (.cells #[.int .i64 p, .int .i64 m] 23))
  have H := Lib.hid h
  have HA := Lib.hid ha
  have HB := Lib.hid hb
  have m1 := meth_add
  have m2 := call_add
  clear h ha hb
  go_enter Tryd.func17, Tryd.ntmps17
  go_wp2_with fail
  refine (fieldOf_yes p m a b _ HW.out H.out HA.out HB.out).mono ?_
  rintro e w1 ⟨rfl, b1⟩
  have HW1 := Lib.hid (HW.out.below b1)
  have B1 := Lib.hid (B0.out.trans (b1.mono B0.out.size))
  go_wp2_with fail
  refine (aadd_any p m a b _ H.out HA.out HB.out).mono ?_
  rintro e w' ⟨rfl, rfl⟩
  go_wp2_with fail
  go_ret2
  exact ⟨rfl, B1.out⟩
set_option maxHeartbeats 1000000 in
theorem Sub_form (P M a b : Int) (w : World) (hw : Tab w) (h : validF P M = false) : Calls Tryd.prog 18 #[.agg #[.int .i64 P, .int .i64 M], .int .i64 a, .int .i64 b] w fun e w' => e = .returned (.tuple #[.int .i64 0, .int .i64 1]) ∧ Below w.heap.size w w' := by
  have HW := Lib.hid (hw.below ((Below.refl _ w).alloc (Nat.le_refl _) (.cells #[.int .i64 P, .int .i64 M] 23)))
  have B0 := Lib.hid ((Below.refl _ w).alloc (Nat.le_refl _) (.cells #[.int .i64 P, .int .i64 M] 23))
  have H := Lib.hid h
  clear h
  go_enter Tryd.func18, Tryd.ntmps18
  go_wp2_with fail
  refine (fieldOf_form P M a b _ HW.out H.out).mono ?_
  rintro e w1 ⟨rfl, b1⟩
  have B1 := Lib.hid (B0.out.trans (b1.mono B0.out.size))
  go_wp2_with fail
  go_ret2
  exact ⟨rfl, B1.out⟩
set_option maxHeartbeats 1000000 in
theorem Sub_arg (p m : Nat) (a b : Int) (w : World) (hw : Tab w) (h : Vf p m) (hab : ¬ (isEl p m a ∧ isEl p m b)) : Calls Tryd.prog 18 #[.agg #[.int .i64 p, .int .i64 m], .int .i64 a, .int .i64 b] w fun e w' => e = .returned (.tuple #[.int .i64 0, .int .i64 2]) ∧ Below w.heap.size w w' := by
  have HW := Lib.hid (hw.below ((Below.refl _ w).alloc (Nat.le_refl _) (.cells #[.int .i64 p, .int .i64 m] 23)))
  have B0 := Lib.hid ((Below.refl _ w).alloc (Nat.le_refl _) (.cells #[.int .i64 p, .int .i64 m] 23))
  have H := Lib.hid h
  have HAB := Lib.hid hab
  clear h hab
  go_enter Tryd.func18, Tryd.ntmps18
  go_wp2_with fail
  refine (fieldOf_arg p m a b _ HW.out H.out HAB.out).mono ?_
  rintro e w1 ⟨rfl, b1⟩
  have B1 := Lib.hid (B0.out.trans (b1.mono B0.out.size))
  go_wp2_with fail
  go_ret2
  exact ⟨rfl, B1.out⟩
set_option maxHeartbeats 1000000 in
theorem Sub_yes (p m a b : Nat) (w : World) (hw : Tab w) (h : Vf p m) (ha : a < fQ p m) (hb : b < fQ p m) : Calls Tryd.prog 18 #[.agg #[.int .i64 p, .int .i64 m], .int .i64 a, .int .i64 b] w fun e w' => e = .returned (.tuple #[.int .i64 (fsub p m a b : Nat), .int .i64 0]) ∧ Below w.heap.size w w' := by
  have HW := Lib.hid (hw.below ((Below.refl _ w).alloc (Nat.le_refl _) (.cells #[.int .i64 p, .int .i64 m] 23)))
  have B0 := Lib.hid ((Below.refl _ w).alloc (Nat.le_refl _) (.cells #[.int .i64 p, .int .i64 m] 23))
  have H := Lib.hid h
  have HA := Lib.hid ha
  have HB := Lib.hid hb
  have m1 := meth_sub
  have m2 := call_sub
  clear h ha hb
  go_enter Tryd.func18, Tryd.ntmps18
  go_wp2_with fail
  refine (fieldOf_yes p m a b _ HW.out H.out HA.out HB.out).mono ?_
  rintro e w1 ⟨rfl, b1⟩
  have HW1 := Lib.hid (HW.out.below b1)
  have B1 := Lib.hid (B0.out.trans (b1.mono B0.out.size))
  go_wp2_with fail
  refine (asub_any p m a b _ H.out HA.out HB.out).mono ?_
  rintro e w' ⟨rfl, rfl⟩
  go_wp2_with fail
  go_ret2
  exact ⟨rfl, B1.out⟩
set_option maxHeartbeats 1000000 in
theorem Mul_form (P M a b : Int) (w : World) (hw : Tab w) (h : validF P M = false) : Calls Tryd.prog 19 #[.agg #[.int .i64 P, .int .i64 M], .int .i64 a, .int .i64 b] w fun e w' => e = .returned (.tuple #[.int .i64 0, .int .i64 1]) ∧ Below w.heap.size w w' := by
  have HW := Lib.hid (hw.below ((Below.refl _ w).alloc (Nat.le_refl _) (.cells #[.int .i64 P, .int .i64 M] 23)))
  have B0 := Lib.hid ((Below.refl _ w).alloc (Nat.le_refl _) (.cells #[.int .i64 P, .int .i64 M] 23))
  have H := Lib.hid h
  clear h
  go_enter Tryd.func19, Tryd.ntmps19
  go_wp2_with fail
  refine (fieldOf_form P M a b _ HW.out H.out).mono ?_
  rintro e w1 ⟨rfl, b1⟩
  have B1 := Lib.hid (B0.out.trans (b1.mono B0.out.size))
  go_wp2_with fail
  go_ret2
  exact ⟨rfl, B1.out⟩
set_option maxHeartbeats 1000000 in
theorem Mul_arg (p m : Nat) (a b : Int) (w : World) (hw : Tab w) (h : Vf p m) (hab : ¬ (isEl p m a ∧ isEl p m b)) : Calls Tryd.prog 19 #[.agg #[.int .i64 p, .int .i64 m], .int .i64 a, .int .i64 b] w fun e w' => e = .returned (.tuple #[.int .i64 0, .int .i64 2]) ∧ Below w.heap.size w w' := by
  have HW := Lib.hid (hw.below ((Below.refl _ w).alloc (Nat.le_refl _) (.cells #[.int .i64 p, .int .i64 m] 23)))
  have B0 := Lib.hid ((Below.refl _ w).alloc (Nat.le_refl _) (.cells #[.int .i64 p, .int .i64 m] 23))
  have H := Lib.hid h
  have HAB := Lib.hid hab
  clear h hab
  go_enter Tryd.func19, Tryd.ntmps19
  go_wp2_with fail
  refine (fieldOf_arg p m a b _ HW.out H.out HAB.out).mono ?_
  rintro e w1 ⟨rfl, b1⟩
  have B1 := Lib.hid (B0.out.trans (b1.mono B0.out.size))
  go_wp2_with fail
  go_ret2
  exact ⟨rfl, B1.out⟩
set_option maxHeartbeats 1000000 in
theorem Mul_yes (p m a b : Nat) (w : World) (hw : Tab w) (h : Vf p m) (ha : a < fQ p m) (hb : b < fQ p m) : Calls Tryd.prog 19 #[.agg #[.int .i64 p, .int .i64 m], .int .i64 a, .int .i64 b] w fun e w' => e = .returned (.tuple #[.int .i64 (fmul p m a b : Nat), .int .i64 0]) ∧ Below w.heap.size w w' := by
  have HW := Lib.hid (hw.below ((Below.refl _ w).alloc (Nat.le_refl _) (.cells #[.int .i64 p, .int .i64 m] 23)))
  have B0 := Lib.hid ((Below.refl _ w).alloc (Nat.le_refl _) (.cells #[.int .i64 p, .int .i64 m] 23))
  have H := Lib.hid h
  have HA := Lib.hid ha
  have HB := Lib.hid hb
  have m1 := meth_mul
  have m2 := call_mul
  clear h ha hb
  go_enter Tryd.func19, Tryd.ntmps19
  go_wp2_with fail
  refine (fieldOf_yes p m a b _ HW.out H.out HA.out HB.out).mono ?_
  rintro e w1 ⟨rfl, b1⟩
  have HW1 := Lib.hid (HW.out.below b1)
  have B1 := Lib.hid (B0.out.trans (b1.mono B0.out.size))
  go_wp2_with fail
  refine (amul_any p m a b _ H.out HA.out HB.out HW1.out).mono ?_
  rintro e w' ⟨rfl, rfl⟩
  go_wp2_with fail
  go_ret2
  exact ⟨rfl, B1.out⟩
end Go.Proofs.YtmenkahkdcjkiaaDoor
