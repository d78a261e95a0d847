/- The methods Is, Add, Neg, Mul, Power and Inverse of the reference's kits by their meaning. -/
import Derived.Test.YtmenkahkdcjkiaaDoorProg
import Derived.Test.YtmenkahkdcjkiaaDoorBase
import Derived.Test.YtmenkahkdcjkiaaDoorFof
import Derived.Test.YtmenkahkdcjkiaaDoorFops
import Derived.Test.YtmenkahkdcjkiaaDoorRdeg
import Derived.Test.YtmenkahkdcjkiaaDoorRkit
namespace Go.Proofs.YtmenkahkdcjkiaaDoor
open Go.RowKit

/-- the first i steps of the product -/
def clTo (a b : Nat) : Nat → Nat
  | 0 => 0
  | i + 1 => clTo a b i ^^^ (if b / 2 ^ i % 2 = 1 then a * 2 ^ i else 0)
theorem clTo_succ (a b : Nat) : ∀ i, clTo a b (i + 1) = lo b a ^^^ clTo (2 * a) (b / 2) i := by
  intro i
  induction i with
  | zero => simp [clTo, lo]
  | succ i ih =>
    rw [clTo, ih, clTo, ← Nat.xor_assoc]
    congr 1
    have e1 : b / 2 ^ (i + 1) = b / 2 / 2 ^ i := by rw [Nat.pow_succ, Nat.mul_comm, Nat.div_div_eq_div_mul]
    have e2 : a * 2 ^ (i + 1) = 2 * a * 2 ^ i := by rw [Nat.pow_succ, Nat.mul_comm (2 ^ i) 2, ← Nat.mul_assoc, Nat.mul_comm a 2]
    rw [e1, e2]
theorem clTo_all : ∀ (m a b : Nat), b < 2 ^ m → clTo a b m = cl a b
  | 0, a, b, h => by
    have : b = 0 := by simpa using h
    subst this; rw [cl_zero]; rfl
  | m + 1, a, b, h => by
    rw [Nat.pow_succ] at h
    rw [clTo_succ, clTo_all m (2 * a) (b / 2) (by omega), two_cl, ← cl_step]
theorem clTo_lt {a : Nat} (b : Nat) (ha : a < 65536) : ∀ i, i ≤ 16 → clTo a b i < 2 ^ 31
  | 0, _ => by simp [clTo]
  | i + 1, h => by
    rw [clTo]
    refine Nat.xor_lt_two_pow (clTo_lt b ha i (by omega)) ?_
    split
    · have h1 := Nat.pow_le_pow_right (n := 2) (by omega) (show i ≤ 15 by omega)
      have := Nat.mul_le_mul (show a ≤ 65535 by omega) h1
      omega
    · decide
theorem log2_modl {m : Nat} (h2 : 2 ≤ m) (hm : m ≤ 16) : (modl m).log2 = m := by
  have h := modl_dg m h2 hm
  exact dg_uniq (dg_of_pos (by have := h.1; have := Nat.two_pow_pos m; omega)) h
/-- the negative -/
def fneg (p m a : Nat) : Nat := if m = 1 then (p - a) % p else a
theorem fsub_eq (p m a b : Nat) : fsub p m a b = fadd p m a (fneg p m b) := by
  unfold fsub fadd fneg; split <;> rfl
theorem fneg_lt {p m a : Nat} (h : Vf p m) (ha : a < fQ p m) : fneg p m a < fQ p m := by
  unfold fneg
  split
  · rename_i hm
    subst hm
    exact Nat.mod_lt _ (by have := h.q; show 0 < fQ p 1; omega)
  · exact ha

set_option maxHeartbeats 1000000 in
theorem kis_any (p m : Nat) (a : Int) (w : World) (h : Vf p m) : Calls Tryd.prog 22 #[kitV p m, .int .i64 a] w fun e w' => e = .returned (.bool (decide (isEl p m a))) ∧ Below w.heap.size w w' := by
  have hq := h.q
  unfold kitV kitC
  have HE := Lib.hid (show decide (isEl p m a) = (decide (0 ≤ a) && decide (a < (fQ p m : Nat))) by unfold isEl; exact Bool.decide_and _ _)
  obtain ⟨E, hE⟩ : ∃ E, E = decide (isEl p m a) := ⟨_, rfl⟩
  rw [← hE] at HE ⊢
  obtain ⟨q, hq0⟩ : ∃ q, q = fQ p m := ⟨_, rfl⟩
  rw [← hq0] at hq HE ⊢
  obtain ⟨T, hT⟩ : ∃ T, T = modK m := ⟨_, rfl⟩
  rw [← hT]
  have hb := Lib.hid ((Below.refl _ w).alloc (Nat.le_refl _) (.cells #[.int .i64 p, .int .i64 m, .int .i64 q, .int .i64 T] 34))
  clear hq0 hT h hE
  by_cases h1 : 0 ≤ a
  · go_enter Tryd.func22, Tryd.ntmps22
    go_wp2
    go_ret
    exact ⟨ret_bool (by rw [HE.out, decide_eq_true h1, Bool.true_and]), hb.out⟩
  · go_enter Tryd.func22, Tryd.ntmps22
    go_wp2
    go_ret
    exact ⟨ret_bool (by rw [HE.out, decide_eq_false (by omega), Bool.false_and]), hb.out⟩
set_option maxHeartbeats 1000000 in
theorem kadd_any (p m a b : Nat) (w : World) (h : Vf p m) (ha : a < fQ p m) (hb : b < fQ p m) : Calls Tryd.prog 23 #[kitV p m, .int .i64 a, .int .i64 b] w fun e w' => e = .returned (.int .i64 (fadd p m a b : Nat)) ∧ Below w.heap.size w w' := by
  have hq := h.q
  unfold kitV kitC
  have B0 := Lib.hid ((Below.refl _ w).alloc (Nat.le_refl _) (.cells #[.int .i64 p, .int .i64 m, .int .i64 (fQ p m : Nat), .int .i64 (modK m : Nat)] 34))
  obtain ⟨q, hq0⟩ : ∃ q, q = fQ p m := ⟨_, rfl⟩
  rw [← hq0] at hq ha hb B0 ⊢
  obtain ⟨T, hT⟩ : ∃ T, T = modK m := ⟨_, rfl⟩
  rw [← hT] at B0 ⊢
  clear hT
  by_cases h1 : m = 1
  · subst h1
    obtain rfl : q = p := hq0
    have hp0 : 0 < q := by omega
    have HF := Lib.hid (show fadd q 1 a b = (a + b) % q from rfl)
    go_enter Tryd.func23, Tryd.ntmps23
    go_wp2
    go_ret
    exact ⟨ret_int (by rw [HF.out, Int.natCast_emod, Int.natCast_add]), B0.out⟩
  · have h2 : 1 < m := by rcases h with ⟨h, _⟩ | ⟨_, h, _⟩ <;> omega
    have X := xor64 a b (by omega) (by omega)
    have HF := Lib.hid (show fadd p m a b = a ^^^ b from if_neg h1)
    clear h1 h hq0
    go_enter Tryd.func23, Tryd.ntmps23
    go_wp2
    go_ret
    exact ⟨ret_int (by rw [HF.out]), B0.out⟩
set_option maxHeartbeats 1000000 in
theorem kneg_any (p m a : Nat) (w : World) (h : Vf p m) (ha : a < fQ p m) : Calls Tryd.prog 24 #[kitV p m, .int .i64 a] w fun e w' => e = .returned (.int .i64 (fneg p m a : Nat)) ∧ Below w.heap.size w w' := by
  have hq := h.q
  unfold kitV kitC
  have B0 := Lib.hid ((Below.refl _ w).alloc (Nat.le_refl _) (.cells #[.int .i64 p, .int .i64 m, .int .i64 (fQ p m : Nat), .int .i64 (modK m : Nat)] 34))
  obtain ⟨q, hq0⟩ : ∃ q, q = fQ p m := ⟨_, rfl⟩
  rw [← hq0] at hq ha B0 ⊢
  obtain ⟨T, hT⟩ : ∃ T, T = modK m := ⟨_, rfl⟩
  rw [← hT] at B0 ⊢
  clear hT
  by_cases h1 : m = 1
  · subst h1
    obtain rfl : q = p := hq0
    have hp0 : 0 < q := by omega
    have hpa : a ≤ q := by omega
    have HF := Lib.hid (show fneg q 1 a = (q - a) % q from rfl)
    go_enter Tryd.func24, Tryd.ntmps24
    go_wp2
    go_ret
    exact ⟨ret_int (by rw [HF.out, Int.natCast_emod, Int.natCast_sub hpa]), B0.out⟩
  · have h2 : 1 < m := by rcases h with ⟨h, _⟩ | ⟨_, h, _⟩ <;> omega
    have HF := Lib.hid (show fneg p m a = a from if_neg h1)
    clear h1 h hq0
    go_enter Tryd.func24, Tryd.ntmps24
    go_wp2
    go_ret
    exact ⟨ret_int (by rw [HF.out]), B0.out⟩

set_option maxHeartbeats 2000000 in
theorem kmul_any (p m a b : Nat) (w : World) (h : Vf p m) (ha : a < fQ p m) (hb : b < fQ p m) : Calls Tryd.prog 25 #[kitV p m, .int .i64 a, .int .i64 b] w fun e w' => e = .returned (.int .i64 (fmul p m a b : Nat)) ∧ Below w.heap.size w w' := by
  have hq := h.q
  unfold kitV kitC
  have B0 := Lib.hid ((Below.refl _ w).alloc (Nat.le_refl _) (.cells #[.int .i64 p, .int .i64 m, .int .i64 (fQ p m : Nat), .int .i64 (modK m : Nat)] 34))
  obtain ⟨q, hq0⟩ : ∃ q, q = fQ p m := ⟨_, rfl⟩
  rw [← hq0] at hq ha hb B0 ⊢
  obtain ⟨T, hT⟩ : ∃ T, T = modK m := ⟨_, rfl⟩
  rw [← hT] at B0 ⊢
  by_cases h1 : m = 1
  · subst h1
    obtain rfl : q = p := hq0
    have hp0 : 0 < q := by omega
    have m1 : (a : Int) * (b : Int) ≤ 65535 * 65535 := Int.mul_le_mul (by omega) (by omega) (by omega) (by omega)
    have m0 : 0 ≤ (a : Int) * (b : Int) := Int.mul_nonneg (by omega) (by omega)
    have HF := Lib.hid (show fmul q 1 a b = a * b % q from rfl)
    clear hT
    go_enter Tryd.func25, Tryd.ntmps25
    go_wp2
    go_ret
    exact ⟨ret_int (by rw [HF.out, Int.natCast_emod, Int.natCast_mul]), B0.out⟩
  · obtain ⟨h2, h16⟩ : 2 ≤ m ∧ m ≤ 16 := by rcases h with ⟨h, _⟩ | ⟨_, h⟩ <;> omega
    have h1' : ((m : Int) == 1) = false := by simp; omega
    have HT := Lib.hid (show T = modl m by rw [hT]; unfold modK; rw [if_neg h1])
    have hTb : 0 < T ∧ T < 131072 := by
      have h3 := modl_dg m h2 h16
      have h4 := pow64 m h16
      have h5 := Nat.two_pow_pos m
      rw [HT.out]; have h6 := h3.1; have h7 := h3.2; rw [Nat.pow_succ] at h7; omega
    have HQ := Lib.hid (show q = 2 ^ m by rw [hq0]; unfold fQ; rw [if_neg h1])
    have HF := Lib.hid (show fmul p m a b = rem m (modl m) (cl a b) from if_neg h1)
    have ha6 : a < 65536 := by omega
    have hb6 : b < 65536 := by omega
    clear h1 h hq0 hT
    go_enter Tryd.func25, Tryd.ntmps25
    go_wp2_with fail
    go_loop [7, 8] (fun cv iv => ∃ (i c : Nat), iv = .int .i64 i ∧ cv = .int .i64 c ∧ i ≤ m ∧ c < 2147483648 ∧ Hid (c = clTo a b i)) (fun _ iv => m - (intOf iv).toNat)
    case atStart => exact ⟨0, 0, rfl, rfl, Nat.zero_le _, by omega, Lib.hid rfl⟩
    case round =>
      obtain ⟨i, c, rfl, rfl, hi, hc, he⟩ := hrel
      by_cases hlt : i < m
      · have e1 : (2 : Int) ^ i = ((2 ^ i : Nat) : Int) := by rw [Int.natCast_pow]; rfl
        have hd : (b : Int) / 2 ^ i = ((b / 2 ^ i : Nat) : Int) := by rw [e1, Int.natCast_ediv]
        have hdl : b / 2 ^ i ≤ b := Nat.div_le_self _ _
        have hlt2 := clTo_lt b ha6 (i + 1) (by omega)
        have hs : clTo a b (i + 1) = clTo a b i ^^^ (if b / 2 ^ i % 2 = 1 then a * 2 ^ i else 0) := rfl
        rw [← he.out] at hs
        have hbd : a * 2 ^ i < 4611686018427387904 := by
          have h1 := Nat.pow_le_pow_right (n := 2) (by omega) (show i ≤ 16 by omega)
          have := Nat.mul_le_mul (show a ≤ 65535 by omega) h1
          omega
        have hsh : (a : Int) * 2 ^ i = ((a * 2 ^ i : Nat) : Int) := by rw [e1, Int.natCast_mul]
        obtain ⟨D, hD⟩ : ∃ D, D = b / 2 ^ i := ⟨_, rfl⟩
        rw [← hD] at hd hdl hs
        have A := and64 D (by omega)
        obtain ⟨S, hS⟩ : ∃ S, S = a * 2 ^ i := ⟨_, rfl⟩
        rw [← hS] at hbd hsh hs
        have X := xor64 c S (by omega) hbd
        obtain ⟨C2, hC2⟩ : ∃ C2, C2 = clTo a b (i + 1) := ⟨_, rfl⟩
        rw [← hC2] at hlt2 hs
        have HC2 := Lib.hid hC2
        clear hD hS hC2 e1
        by_cases hbit : D % 2 = 1
        · rw [if_pos hbit] at hs
          rw [← hs] at X
          clear hs
          go_wp2_with fail
          go_round
          case rel => exact ⟨i + 1, C2, by go_num, rfl, by omega, by omega, HC2⟩
          case measure => simp [intOf]; omega
        · rw [if_neg hbit, Nat.xor_zero] at hs
          have hbit' : D % 2 = 0 := by omega
          subst hs
          clear hbit
          go_wp2_with fail
          go_round
          case rel => exact ⟨i + 1, C2, by go_num, rfl, by omega, by omega, HC2⟩
          case measure => simp [intOf]; omega
      · have hie : i = m := by omega
        have HE := Lib.hid (show c = cl a b by rw [he.out, hie]; exact clTo_all m a b (by rw [← HQ.out]; exact hb))
        clear hie
        go_wp2_with fail
        refine (rest_any c T _ (by omega) hTb.1 hTb.2).mono ?_
        rintro e w' ⟨rfl, rfl⟩
        have HR := Lib.hid (show rem T.log2 T c = rem m (modl m) (cl a b) by rw [HE.out, HT.out, log2_modl h2 h16])
        go_wp2_with fail
        go_ret
        exact ⟨ret_int (by rw [HF.out, ← HR.out]), B0.out⟩
end Go.Proofs.YtmenkahkdcjkiaaDoor
