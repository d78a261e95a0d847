/- The field of p and m: its arithmetic as the program's interface value, and field.fieldOf. -/
import Derived.Test.YtmenkahkdcjkiaaDoorProg
import Derived.Test.YtmenkahkdcjkiaaDoorBase
import Derived.Test.YtmenkahkdcjkiaaDoorAri
import Derived.Test.YtmenkahkdcjkiaaDoorFval
import Derived.Outline
namespace Go.Proofs.YtmenkahkdcjkiaaDoor
open Go.RowKit

/-- p and m make a field -/
def Vf (p m : Nat) : Prop := (m = 1 ∧ 2 ≤ p ∧ p ≤ 65536 ∧ primeB p = true) ∨ (p = 2 ∧ 2 ≤ m ∧ m ≤ 16)
def fQ (p m : Nat) : Nat := if m = 1 then p else 2 ^ m
def fadd (p m a b : Nat) : Nat := if m = 1 then (a + b) % p else a ^^^ b
def fsub (p m a b : Nat) : Nat := if m = 1 then (a + (p - b) % p) % p else a ^^^ b
noncomputable def fmul (p m a b : Nat) : Nat := if m = 1 then a * b % p else rem m (modl m) (cl a b)

theorem Vf.valid {p m : Nat} (h : Vf p m) : validF p m = true := by
  rcases h with ⟨rfl, h2, hp, h⟩ | ⟨rfl, h2, hm⟩
  · exact validF_prime h2 hp h
  · exact validF_poly h2 hm
theorem Vf.of {P M : Int} (h : validF P M = true) : ∃ p m : Nat, P = p ∧ M = m ∧ Vf p m := validF_cases h
theorem Vf.q {p m : Nat} (h : Vf p m) : 2 ≤ fQ p m ∧ fQ p m ≤ 65536 := by
  rcases h with ⟨rfl, h2, hp, h⟩ | ⟨rfl, h2, hm⟩
  · unfold fQ; rw [if_pos rfl]; omega
  · unfold fQ; rw [if_neg (by omega)]
    have := pow64 m hm
    have := Nat.pow_le_pow_right (n := 2) (by omega) (show 1 ≤ m by omega)
    omega
theorem Vf.fld {p m : Nat} (h : Vf p m) : Fld (fQ p m) (fadd p m) (fmul p m) := by
  rcases h with ⟨rfl, h2, hp, h⟩ | ⟨rfl, h2, hm⟩
  · have := prime_fld h
    exact this
  · have := poly_fld (by omega) (modl_dg m h2 hm) (modl_irr m h2 hm)
    have e1 : fadd 2 m = fun a b => a ^^^ b := by funext a b; unfold fadd; rw [if_neg (by omega)]
    have e2 : fmul 2 m = fun a b => rem m (modl m) (cl a b) := by funext a b; unfold fmul; rw [if_neg (by omega)]
    have e3 : fQ 2 m = 2 ^ m := by unfold fQ; rw [if_neg (by omega)]
    rw [e1, e2, e3]; exact this

/-- the type and the datum of the interface value -/
def aTy (m : Nat) : TypeId := if m = 1 then 58 else 59
def aDat (p m : Nat) : Nat := if m = 1 then p else m
def fnOrder (m : Nat) : FuncId := if m = 1 then 66 else 70
def fnAdd (m : Nat) : FuncId := if m = 1 then 64 else 68
def fnSub (m : Nat) : FuncId := if m = 1 then 67 else 71
def fnMul (m : Nat) : FuncId := if m = 1 then 65 else 69
theorem arith_eq (p m : Nat) : arith p m = .iface (aTy m) (.int .i64 (aDat p m)) := by
  unfold arith aTy aDat
  by_cases h : m = 1
  · subst h; rfl
  · rw [if_neg (by omega), if_neg h, if_neg h]

theorem meth_order (m : Nat) (w : World) (n : Int) : (method 179 (aTy m) (.int .i64 n) "commodatum/field.order").run Tryd.prog w = .ok (fnOrder m, .int .i64 n) w := by
  unfold aTy fnOrder; split <;> kernel_rfl
theorem meth_add (m : Nat) (w : World) (n : Int) : (method 179 (aTy m) (.int .i64 n) "commodatum/field.add").run Tryd.prog w = .ok (fnAdd m, .int .i64 n) w := by
  unfold aTy fnAdd; split <;> kernel_rfl
theorem meth_sub (m : Nat) (w : World) (n : Int) : (method 179 (aTy m) (.int .i64 n) "commodatum/field.sub").run Tryd.prog w = .ok (fnSub m, .int .i64 n) w := by
  unfold aTy fnSub; split <;> kernel_rfl
theorem meth_mul (m : Nat) (w : World) (n : Int) : (method 179 (aTy m) (.int .i64 n) "commodatum/field.mul").run Tryd.prog w = .ok (fnMul m, .int .i64 n) w := by
  unfold aTy fnMul; split <;> kernel_rfl

theorem call_order (m : Nat) (w : World) (args : Array Value) : (callFunc (fnOrder m) args).run Tryd.prog w = .ok (.enter (fnOrder m) args) w := by
  unfold fnOrder; split <;> kernel_rfl
theorem call_add (m : Nat) (w : World) (args : Array Value) : (callFunc (fnAdd m) args).run Tryd.prog w = .ok (.enter (fnAdd m) args) w := by
  unfold fnAdd; split <;> kernel_rfl
theorem call_sub (m : Nat) (w : World) (args : Array Value) : (callFunc (fnSub m) args).run Tryd.prog w = .ok (.enter (fnSub m) args) w := by
  unfold fnSub; split <;> kernel_rfl
theorem call_mul (m : Nat) (w : World) (args : Array Value) : (callFunc (fnMul m) args).run Tryd.prog w = .ok (.enter (fnMul m) args) w := by
  unfold fnMul; split <;> kernel_rfl

theorem aorder_any (p m : Nat) (w : World) (h : Vf p m) : Calls Tryd.prog (fnOrder m) #[.int .i64 (aDat p m)] w fun e w' => e = .returned (.int .i64 (fQ p m : Nat)) ∧ w = w' := by
  rcases h with ⟨rfl, h2, hp, h⟩ | ⟨rfl, h2, hm⟩
  · exact porder_any p w
  · unfold fnOrder aDat fQ
    rw [if_neg (by omega), if_neg (by omega), if_neg (by omega)]
    exact border_any m w hm
theorem aadd_any (p m a b : Nat) (w : World) (h : Vf p m) (ha : a < fQ p m) (hb : b < fQ p m) : Calls Tryd.prog (fnAdd m) #[.int .i64 (aDat p m), .int .i64 a, .int .i64 b] w fun e w' => e = .returned (.int .i64 (fadd p m a b : Nat)) ∧ w = w' := by
  rcases h with ⟨rfl, h2, hp, h⟩ | ⟨rfl, h2, hm⟩
  · exact padd_any p a b w hp ha hb
  · unfold fQ at ha hb; rw [if_neg (by omega)] at ha hb
    unfold fnAdd aDat fadd
    rw [if_neg (by omega), if_neg (by omega), if_neg (by omega)]
    exact badd_any m a b w hm ha hb
theorem asub_any (p m a b : Nat) (w : World) (h : Vf p m) (ha : a < fQ p m) (hb : b < fQ p m) : Calls Tryd.prog (fnSub m) #[.int .i64 (aDat p m), .int .i64 a, .int .i64 b] w fun e w' => e = .returned (.int .i64 (fsub p m a b : Nat)) ∧ w = w' := by
  rcases h with ⟨rfl, h2, hp, h⟩ | ⟨rfl, h2, hm⟩
  · exact psub_any p a b w hp ha hb
  · unfold fQ at ha hb; rw [if_neg (by omega)] at ha hb
    unfold fnSub aDat fsub
    rw [if_neg (by omega), if_neg (by omega), if_neg (by omega)]
    exact bsub_any m a b w hm ha hb
theorem amul_any (p m a b : Nat) (w : World) (h : Vf p m) (ha : a < fQ p m) (hb : b < fQ p m) (hw : Tab w) : Calls Tryd.prog (fnMul m) #[.int .i64 (aDat p m), .int .i64 a, .int .i64 b] w fun e w' => e = .returned (.int .i64 (fmul p m a b : Nat)) ∧ w = w' := by
  rcases h with ⟨rfl, h2, hp, h⟩ | ⟨rfl, h2, hm⟩
  · exact pmul_any p a b w hp ha hb
  · unfold fQ at ha hb; rw [if_neg (by omega)] at ha hb
    unfold fnMul aDat fmul
    rw [if_neg (by omega), if_neg (by omega), if_neg (by omega)]
    exact bmul_any m a b w h2 hm ha hb hw.1

set_option maxHeartbeats 1000000 in
theorem fieldOf_form (P M : Int) (a b : Int) (w : World) (hw : Tab w) (h : validF P M = false) : Calls Tryd.prog 41 #[.agg #[.int .i64 P, .int .i64 M], .int .i64 a, .int .i64 b] w fun e w' => e = .returned (.tuple #[.nilIface, .int .i64 1]) ∧ Below w.heap.size w w' := by
  have HW := Lib.hid (hw.below ((Below.refl _ w).alloc (Nat.le_refl _) (.cells #[.int .i64 P, .int .i64 M] 23)))
  have B0 := Lib.hid ((Below.refl _ w).alloc (Nat.le_refl _) (.cells #[.int .i64 P, .int .i64 M] 23))
  have H := Lib.hid h
  clear h
  go_enter Tryd.func41, Tryd.ntmps41
  go_wp2_with fail
  refine (arithOf_no P M _ HW.out H.out).mono ?_
  rintro e w1 ⟨rfl, b1⟩
  have B1 := Lib.hid (B0.out.trans (b1.mono B0.out.size))
  go_wp2_with fail
  go_ret2
  exact ⟨rfl, B1.out⟩
/-- a is an element -/
def isEl (p m : Nat) (a : Int) : Prop := 0 ≤ a ∧ a < (fQ p m : Nat)
instance (p m : Nat) (a : Int) : Decidable (isEl p m a) := inferInstanceAs (Decidable (_ ∧ _))
set_option maxHeartbeats 1000000 in
theorem fieldOf_arg (p m : Nat) (a b : Int) (w : World) (hw : Tab w) (h : Vf p m) (hab : ¬ (isEl p m a ∧ isEl p m b)) : Calls Tryd.prog 41 #[.agg #[.int .i64 p, .int .i64 m], .int .i64 a, .int .i64 b] w fun e w' => e = .returned (.tuple #[.nilIface, .int .i64 2]) ∧ Below w.heap.size w w' := by
  have HW := Lib.hid (hw.below ((Below.refl _ w).alloc (Nat.le_refl _) (.cells #[.int .i64 p, .int .i64 m] 23)))
  have B0 := Lib.hid ((Below.refl _ w).alloc (Nat.le_refl _) (.cells #[.int .i64 p, .int .i64 m] 23))
  have hq := h.q
  have H := Lib.hid h
  have m1 := meth_order
  have m2 := call_order
  have HAB := Lib.hid hab
  clear h hab
  go_enter Tryd.func41, Tryd.ntmps41
  go_wp2_with fail
  refine (arithOf_yes p m _ HW.out H.out.valid).mono ?_
  rintro e w1 ⟨rfl, b1⟩
  have B1 := Lib.hid (B0.out.trans (b1.mono B0.out.size))
  rw [arith_eq]
  go_wp2_with fail
  refine (aorder_any p m _ H.out).mono ?_
  rintro e w' ⟨rfl, rfl⟩
  obtain ⟨q, hq0⟩ : ∃ q, q = fQ p m := ⟨_, rfl⟩
  have HAB' : ¬ ((0 ≤ a ∧ a < (q : Int)) ∧ (0 ≤ b ∧ b < (q : Int))) := by rw [hq0]; exact HAB.out
  rw [← hq0] at hq ⊢
  clear HAB hq0 m1 m2
  by_cases h1 : a < 0
  · clear HAB'
    go_wp2_with fail
    go_ret2
    exact ⟨rfl, B1.out⟩
  by_cases h2 : (q : Int) ≤ a
  · clear HAB'
    go_wp2_with fail
    go_ret2
    exact ⟨rfl, B1.out⟩
  by_cases h3 : b < 0
  · clear HAB'
    go_wp2_with fail
    go_ret2
    exact ⟨rfl, B1.out⟩
  by_cases h4 : (q : Int) ≤ b
  · clear HAB'
    go_wp2_with fail
    go_ret2
    exact ⟨rfl, B1.out⟩
  exact absurd ⟨⟨by omega, by omega⟩, by omega, by omega⟩ HAB'
set_option maxHeartbeats 1000000 in
theorem fieldOf_yes (p m a b : Nat) (w : World) (hw : Tab w) (h : Vf p m) (ha : a < fQ p m) (hb : b < fQ p m) : Calls Tryd.prog 41 #[.agg #[.int .i64 p, .int .i64 m], .int .i64 a, .int .i64 b] w fun e w' => e = .returned (.tuple #[.iface (aTy m) (.int .i64 (aDat p m)), .int .i64 0]) ∧ Below w.heap.size w w' := by
  have HW := Lib.hid (hw.below ((Below.refl _ w).alloc (Nat.le_refl _) (.cells #[.int .i64 p, .int .i64 m] 23)))
  have B0 := Lib.hid ((Below.refl _ w).alloc (Nat.le_refl _) (.cells #[.int .i64 p, .int .i64 m] 23))
  have hq := h.q
  have H := Lib.hid h
  have m1 := meth_order
  have m2 := call_order
  clear h
  obtain ⟨q, hq0⟩ : ∃ q, q = fQ p m := ⟨_, rfl⟩
  rw [← hq0] at hq ha hb
  have HQ := Lib.hid hq0
  clear hq0
  go_enter Tryd.func41, Tryd.ntmps41
  go_wp2_with fail
  refine (arithOf_yes p m _ HW.out H.out.valid).mono ?_
  rintro e w1 ⟨rfl, b1⟩
  have B1 := Lib.hid (B0.out.trans (b1.mono B0.out.size))
  rw [arith_eq]
  go_wp2_with fail
  refine (aorder_any p m _ H.out).mono ?_
  rintro e w' ⟨rfl, rfl⟩
  rw [← HQ.out]
  clear m1 m2
  go_wp2_with fail
  go_ret2
  exact ⟨rfl, B1.out⟩
end Go.Proofs.YtmenkahkdcjkiaaDoor
