/- The arithmetic of a prime field and of a field of polynomials: order, add, sub, mul of field's types prime and binary. -/
import Derived.Test.YtmenkahkdcjkiaaDoorProg
import Derived.Test.YtmenkahkdcjkiaaDoorBase
import Derived.Test.YtmenkahkdcjkiaaDoorFlds
import Derived.Laws.BitsAllLaws
import Derived.Outline
namespace Go.Proofs.YtmenkahkdcjkiaaDoor
open Go.RowKit

theorem ofInt64 (a : Nat) (ha : a < 18446744073709551616) : (BitVec.ofInt 64 (a : Int)).toNat = a := by
  rw [BitVec.ofInt_natCast, BitVec.toNat_ofNat]; exact Nat.mod_eq_of_lt (by omega)
theorem wrapi64 (a : Nat) (ha : a < 9223372036854775808) : IntKind.i64.wrap (a : Int) = a := by
  have : (a : Int) < 9223372036854775808 := by omega
  simp [IntKind.wrap, IntKind.bits, IntKind.signed]; omega
theorem xor64 (a b : Nat) (ha : a < 4611686018427387904) (hb : b < 4611686018427387904) : bits .xor .i64 (a : Int) (b : Int) = ((a ^^^ b : Nat) : Int) := by
  have hx : a ^^^ b < 2 ^ 62 := Nat.xor_lt_two_pow (by omega) (by omega)
  show IntKind.i64.wrap ((BitVec.ofInt 64 (a : Int) ^^^ BitVec.ofInt 64 (b : Int)).toNat : Int) = _
  rw [BitVec.toNat_xor, ofInt64 a (by omega), ofInt64 b (by omega), wrapi64 _ (by omega)]
theorem and64 (a : Nat) (ha : a < 9223372036854775808) : bits .and .i64 (a : Int) 1 = ((a % 2 : Nat) : Int) := by
  show IntKind.i64.wrap ((BitVec.ofInt 64 (a : Int) &&& BitVec.ofInt 64 ((1 : Nat) : Int)).toNat : Int) = _
  rw [BitVec.toNat_and, ofInt64 a (by omega), ofInt64 1 (by omega), Nat.and_one_is_mod, wrapi64 _ (by omega)]

theorem porder_any (p : Nat) (w : World) : Calls Tryd.prog 66 #[.int .i64 p] w fun e w' => e = .returned (.int .i64 p) ∧ w = w' := by
  go_enter Tryd.func66, Tryd.ntmps66
  go_wp2
  go_ret
  exact ⟨rfl, rfl⟩
set_option maxHeartbeats 400000 in
theorem padd_any (p a b : Nat) (w : World) (hp : p ≤ 65536) (ha : a < p) (hb : b < p) : Calls Tryd.prog 64 #[.int .i64 p, .int .i64 a, .int .i64 b] w fun e w' => e = .returned (.int .i64 ((a + b) % p : Nat)) ∧ w = w' := by
  by_cases h : p ≤ a + b
  · have e : (a + b) % p = a + b - p := by rw [Nat.mod_eq_sub_mod h, Nat.mod_eq_of_lt (by omega)]
    have H := Lib.hid e
    clear e
    go_enter Tryd.func64, Tryd.ntmps64
    go_wp2
    go_ret
    exact ⟨ret_int (by rw [H.out]; omega), rfl⟩
  · have e : (a + b) % p = a + b := Nat.mod_eq_of_lt (by omega)
    have H := Lib.hid e
    clear e
    go_enter Tryd.func64, Tryd.ntmps64
    go_wp2
    go_ret
    exact ⟨ret_int (by rw [H.out]; omega), rfl⟩
set_option maxHeartbeats 400000 in
theorem pmul_any (p a b : Nat) (w : World) (hp : p ≤ 65536) (ha : a < p) (hb : b < p) : Calls Tryd.prog 65 #[.int .i64 p, .int .i64 a, .int .i64 b] w fun e w' => e = .returned (.int .i64 (a * b % p : Nat)) ∧ w = w' := by
  have h1 : (a : Int) * (b : Int) ≤ 65535 * 65535 := Int.mul_le_mul (by omega) (by omega) (by omega) (by omega)
  have h0 : 0 ≤ (a : Int) * (b : Int) := Int.mul_nonneg (by omega) (by omega)
  have h2 : 0 ≤ (a : Int) * (b : Int) % (p : Int) := Int.emod_nonneg _ (by omega)
  have h3 : (a : Int) * (b : Int) % (p : Int) < (p : Int) := Int.emod_lt_of_pos _ (by omega)
  go_enter Tryd.func65, Tryd.ntmps65
  go_wp2
  go_ret
  exact ⟨ret_int (by rw [Int.natCast_emod, Int.natCast_mul]), rfl⟩
theorem psub_mod (p a b : Nat) (ha : a < p) (hb : b < p) : (a + (p - b) % p) % p = if b ≤ a then a - b else a + p - b := by
  by_cases h0 : b = 0
  · subst h0; simp [Nat.mod_eq_of_lt ha]
  · rw [Nat.mod_eq_of_lt (show p - b < p by omega)]
    by_cases h : b ≤ a
    · rw [if_pos h, Nat.mod_eq_sub_mod (by omega), Nat.mod_eq_of_lt (by omega)]; omega
    · rw [if_neg h, Nat.mod_eq_of_lt (by omega)]; omega
set_option maxHeartbeats 400000 in
theorem psub_any (p a b : Nat) (w : World) (hp : p ≤ 65536) (ha : a < p) (hb : b < p) : Calls Tryd.prog 67 #[.int .i64 p, .int .i64 a, .int .i64 b] w fun e w' => e = .returned (.int .i64 ((a + (p - b) % p) % p : Nat)) ∧ w = w' := by
  have H := Lib.hid (psub_mod p a b ha hb)
  by_cases h : b ≤ a
  · go_enter Tryd.func67, Tryd.ntmps67
    go_wp2
    go_ret
    exact ⟨ret_int (by rw [H.out, if_pos h]; omega), rfl⟩
  · go_enter Tryd.func67, Tryd.ntmps67
    go_wp2
    go_ret
    exact ⟨ret_int (by rw [H.out, if_neg h]; omega), rfl⟩

theorem pow64 (m : Nat) (h : m ≤ 16) : (2 : Nat) ^ m ≤ 65536 := by
  have := Nat.pow_le_pow_right (n := 2) (by omega) h
  simpa using this
set_option maxHeartbeats 400000 in
theorem border_any (m : Nat) (w : World) (hm : m ≤ 16) : Calls Tryd.prog 70 #[.int .i64 m] w fun e w' => e = .returned (.int .i64 (2 ^ m : Nat)) ∧ w = w' := by
  have h := pow64 m hm
  have e : (2 : Int) ^ m = ((2 ^ m : Nat) : Int) := by rw [Int.natCast_pow]; rfl
  have h1 : 0 ≤ (2 : Int) ^ m := Int.le_of_lt (Int.pow_pos (by decide))
  have h2 : (2 : Int) ^ m ≤ 65536 := by rw [e]; exact Int.ofNat_le.2 h
  have H := Lib.hid e
  clear e
  go_enter Tryd.func70, Tryd.ntmps70
  go_wp2
  go_ret
  exact ⟨ret_int H.out, rfl⟩
set_option maxHeartbeats 400000 in
theorem badd_any (m a b : Nat) (w : World) (hm : m ≤ 16) (ha : a < 2 ^ m) (hb : b < 2 ^ m) : Calls Tryd.prog 68 #[.int .i64 m, .int .i64 a, .int .i64 b] w fun e w' => e = .returned (.int .i64 (a ^^^ b : Nat)) ∧ w = w' := by
  have h := pow64 m hm
  have H := xor64 a b (by omega) (by omega)
  go_enter Tryd.func68, Tryd.ntmps68
  go_wp2
  go_ret
  exact ⟨rfl, rfl⟩
set_option maxHeartbeats 400000 in
theorem bsub_any (m a b : Nat) (w : World) (hm : m ≤ 16) (ha : a < 2 ^ m) (hb : b < 2 ^ m) : Calls Tryd.prog 71 #[.int .i64 m, .int .i64 a, .int .i64 b] w fun e w' => e = .returned (.int .i64 (a ^^^ b : Nat)) ∧ w = w' := by
  have h := pow64 m hm
  have H := xor64 a b (by omega) (by omega)
  go_enter Tryd.func71, Tryd.ntmps71
  go_wp2
  go_ret
  exact ⟨rfl, rfl⟩
/-- what binary's mul keeps from round to round -/
def bstep (m a : Nat) : Nat := if 2 ^ m ≤ 2 * a then 2 * a ^^^ modl m else 2 * a
theorem bstep_lt {m a : Nat} (h2 : 2 ≤ m) (hm : m ≤ 16) (ha : a < 2 ^ m) : bstep m a < 2 ^ m := by
  have hd := modl_dg m h2 hm
  unfold bstep
  split
  · exact xor_lt_of_dg ⟨by omega, by rw [Nat.pow_succ]; omega⟩ hd
  · omega
theorem bstep_eqv (m a : Nat) : Eqv (modl m) (bstep m a) (2 * a) := by
  unfold bstep
  split
  · have := Eqv.shift (modl m) (2 * a) 0
    rwa [Nat.shiftLeft_zero] at this
  · exact Eqv.refl _ _
def bfit (m a0 b0 c a b : Nat) : Prop := c < 2 ^ m ∧ a < 2 ^ m ∧ Eqv (modl m) (c ^^^ cl a b) (cl a0 b0)
theorem bfit_next {m a0 b0 c a b : Nat} (h2 : 2 ≤ m) (hm : m ≤ 16) (h : bfit m a0 b0 c a b) : bfit m a0 b0 (c ^^^ lo b a) (bstep m a) (b / 2) := by
  obtain ⟨hc, ha, he⟩ := h
  refine ⟨?_, bstep_lt h2 hm ha, ?_⟩
  · refine Nat.xor_lt_two_pow hc ?_
    unfold lo; split
    · exact ha
    · exact Nat.two_pow_pos m
  · refine Eqv.trans ?_ he
    rw [cl_step a b, Nat.xor_assoc]
    refine (Eqv.refl _ c).xor ((Eqv.refl _ (lo b a)).xor ?_)
    rw [← two_cl]
    exact (bstep_eqv m a).cl _
theorem bfit_end {m a0 b0 c a : Nat} (h2 : 2 ≤ m) (hm : m ≤ 16) (h : bfit m a0 b0 c a 0) : rem m (modl m) (cl a0 b0) = c := by
  obtain ⟨hc, ha, he⟩ := h
  rw [cl_zero, Nat.xor_zero] at he
  exact rem_eq (modl_dg m h2 hm) hc he.symm

/-- the table of the moduli -/
def Mod (w : World) : Prop := ∀ i, i < 17 → w.cell? ⟨0, i, none⟩ = some (.int .i64 (modl i : Nat))

set_option maxHeartbeats 1000000 in
theorem bmul_any (m a0 b0 : Nat) (w : World) (h2 : 2 ≤ m) (hm : m ≤ 16) (ha : a0 < 2 ^ m) (hb : b0 < 2 ^ m) (hw : Mod w) : Calls Tryd.prog 69 #[.int .i64 m, .int .i64 a0, .int .i64 b0] w fun e w' => e = .returned (.int .i64 (rem m (modl m) (cl a0 b0) : Nat)) ∧ w = w' := by
  have hp := pow64 m hm
  have HW := Lib.hid hw
  clear hw
  go_enter Tryd.func69, Tryd.ntmps69
  go_wp2
  go_loop [1, 2, 7] (fun av bv cv => ∃ a b c : Nat, av = .int .i64 a ∧ bv = .int .i64 b ∧ cv = .int .i64 c ∧ b ≤ b0 ∧ Hid (bfit m a0 b0 c a b)) (fun _ bv _ => (intOf bv).toNat)
  case atStart => exact ⟨a0, b0, 0, rfl, rfl, rfl, Nat.le_refl _, Lib.hid ⟨Nat.two_pow_pos m, ha, by rw [Nat.zero_xor]; exact Eqv.refl _ _⟩⟩
  case round =>
    obtain ⟨a, b, c, rfl, rfl, rfl, hbb, hf⟩ := hrel
    have ha1 := hf.out.2.1
    have hc1 := hf.out.1
    have hn := Lib.hid (bfit_next h2 hm hf.out)
    by_cases h0 : b = 0
    · subst h0
      have HE := Lib.hid (bfit_end h2 hm hf.out)
      go_wp2
      go_ret
      exact ⟨ret_int (by rw [HE.out]), rfl⟩
    · have h0' : 0 < b := by omega
      have A := and64 b (by omega)
      have X := xor64 c a (by omega) (by omega)
      have X2 : bits .xor .i64 ((a : Int) * 2) (modl m : Nat) = ((2 * a ^^^ modl m : Nat) : Int) := by
        have := xor64 (2 * a) (modl m) (by omega) (by have := (modl_dg m h2 hm).2; rw [Nat.pow_succ] at this; omega)
        rwa [show ((2 * a : Nat) : Int) = (a : Int) * 2 from by omega] at this
      have g := HW.out m (by omega)
      have hq : (a : Int) * 2 / 2 ^ m = ((2 * a / 2 ^ m : Nat) : Int) := by rw [Int.natCast_ediv, Int.natCast_pow]; simp [Int.mul_comm]
      have hpp : (0 : Nat) < 2 ^ m := Nat.two_pow_pos m
      have hB : bstep m a = if 2 ^ m ≤ 2 * a then 2 * a ^^^ modl m else 2 * a := rfl
      by_cases hbig : 2 ^ m ≤ 2 * a
      · have D : ((a : Int) * 2 / 2 ^ m == 1) = true := by
          rw [hq, Nat.div_eq_of_lt_le (k := 1) (by omega) (by omega)]; rfl
        rw [if_pos hbig] at hB
        have HB := Lib.hid hB
        clear hB hq hbig hpp
        by_cases hbit : b % 2 = 1
        · have HL := Lib.hid (show lo b a = a from if_pos hbit)
          go_wp2
          go_round
          case rel => exact ⟨_, b / 2, _, rfl, by go_num, rfl, by omega, by have := hn.out; rw [HB.out, HL.out] at this; exact Lib.hid this⟩
          case measure => simp [intOf]; omega
        · have hbit' : b % 2 = 0 := by omega
          have HL := Lib.hid (show lo b a = 0 from if_neg hbit)
          clear hbit
          go_wp2
          go_round
          case rel => exact ⟨_, b / 2, _, rfl, by go_num, rfl, by omega, by have := hn.out; rw [HB.out, HL.out, Nat.xor_zero] at this; exact Lib.hid this⟩
          case measure => simp [intOf]; omega
      · have D : ((a : Int) * 2 / 2 ^ m == 1) = false := by
          rw [hq, Nat.div_eq_of_lt (by omega)]; rfl
        rw [if_neg hbig] at hB
        have HB := Lib.hid hB
        clear hB hq hbig hpp
        by_cases hbit : b % 2 = 1
        · have HL := Lib.hid (show lo b a = a from if_pos hbit)
          go_wp2
          go_round
          case rel => exact ⟨2 * a, b / 2, _, by go_num, by go_num, rfl, by omega, by have := hn.out; rw [HB.out, HL.out] at this; exact Lib.hid this⟩
          case measure => simp [intOf]; omega
        · have hbit' : b % 2 = 0 := by omega
          have HL := Lib.hid (show lo b a = 0 from if_neg hbit)
          clear hbit
          go_wp2
          go_round
          case rel => exact ⟨2 * a, b / 2, _, by go_num, by go_num, rfl, by omega, by have := hn.out; rw [HB.out, HL.out, Nat.xor_zero] at this; exact Lib.hid this⟩
          case measure => simp [intOf]; omega
end Go.Proofs.YtmenkahkdcjkiaaDoor
