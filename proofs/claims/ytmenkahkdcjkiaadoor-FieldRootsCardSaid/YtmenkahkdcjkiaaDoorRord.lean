/- The reference's Order and Valid by their meaning. -/
import Derived.Test.YtmenkahkdcjkiaaDoorProg
import Derived.Test.YtmenkahkdcjkiaaDoorBase
import Derived.Test.YtmenkahkdcjkiaaDoorFof
import Derived.Outline
namespace Go.Proofs.YtmenkahkdcjkiaaDoor
open Go.RowKit

/-- the guard of the reference's Order lets P and M by -/
def fitF (P M : Int) : Bool := decide (2 ≤ P ∧ P ≤ 65536 ∧ 1 ≤ M ∧ M ≤ 16 ∧ (M ≤ 1 ∨ P = 2))
theorem validF_fit {P M : Int} (h : fitF P M = false) : validF P M = false := by
  rw [← Bool.not_eq_true]
  intro hv
  obtain ⟨p, m, rfl, rfl, hh⟩ := validF_cases hv
  have : fitF (p : Int) (m : Int) = true := by
    unfold fitF
    rw [decide_eq_true_iff]
    rcases hh with ⟨rfl, h2, hp, _⟩ | ⟨rfl, h2, hm⟩ <;> omega
  rw [this] at h; cases h

set_option maxRecDepth 100000 in
set_option maxHeartbeats 2000000 in
theorem reford_unfit (P M : Int) (w : World) (h : fitF P M = false) : Calls Tryd.prog 10 #[.agg #[.int .i64 P, .int .i64 M]] w fun e w' => e = .returned (.int .i64 0) ∧ Below w.heap.size w w' := by
  have hb := Lib.hid ((Below.refl _ w).alloc (Nat.le_refl _) (.cells #[.int .i64 P, .int .i64 M] 23))
  have h := of_decide_eq_false h
  by_cases h1 : P < 2
  · clear h
    go_enter Tryd.func10, Tryd.ntmps10
    go_wp2_with fail
    go_ret
    exact ⟨rfl, hb.out⟩
  by_cases h2 : 65536 < P
  · clear h
    go_enter Tryd.func10, Tryd.ntmps10
    go_wp2_with fail
    go_ret
    exact ⟨rfl, hb.out⟩
  by_cases h3 : M < 1
  · clear h
    go_enter Tryd.func10, Tryd.ntmps10
    go_wp2_with fail
    go_ret
    exact ⟨rfl, hb.out⟩
  by_cases h4 : 16 < M
  · clear h
    go_enter Tryd.func10, Tryd.ntmps10
    go_wp2_with fail
    go_ret
    exact ⟨rfl, hb.out⟩
  have h5 : 1 < M := by omega
  have h6 : (P != 2) = true := by simp; omega
  clear h
  go_enter Tryd.func10, Tryd.ntmps10
  go_wp2_with fail
  go_ret
  exact ⟨rfl, hb.out⟩

theorem pw_pow (p m : Nat) : fQ p m = if m = 1 then p else 2 ^ m := rfl
/-- what the loop for the power keeps -/
theorem pow_step (p i : Nat) : (p ^ i : Nat) * p = p ^ (i + 1) := (Nat.pow_succ ..).symm
theorem pow_le16 {p m i : Nat} (h : (m = 1 ∧ p ≤ 65536) ∨ (p = 2 ∧ m ≤ 16)) (hi : i ≤ m) : p ^ i ≤ 65536 := by
  rcases h with ⟨rfl, hp⟩ | ⟨rfl, hm⟩
  · rcases i with _ | _ | i
    · simp
    · simpa using hp
    · omega
  · exact pow64 i (by omega)
theorem fQ_pow {p m : Nat} (h : Vf p m) : fQ p m = p ^ m := by
  unfold fQ
  rcases h with ⟨rfl, _⟩ | ⟨rfl, _, _⟩
  · simp
  · rw [if_neg (by omega)]
/-- no number from 2 on below i divides p -/
def upTo (p i : Nat) : Prop := ∀ d, 2 ≤ d → d < i → p % d ≠ 0

set_option maxRecDepth 100000 in
set_option maxHeartbeats 4000000 in
theorem reford_fit (p m : Nat) (w : World) (h : fitF p m = true) : Calls Tryd.prog 10 #[.agg #[.int .i64 p, .int .i64 m]] w fun e w' => e = .returned (.int .i64 (if primeB p then p ^ m else 0 : Nat)) ∧ Below w.heap.size w w' := by
  have hb := Lib.hid ((Below.refl _ w).alloc (Nat.le_refl _) (.cells #[.int .i64 p, .int .i64 m] 23))
  have h := of_decide_eq_true h
  obtain ⟨h1, h2, h3, h4, h5⟩ := h
  have HC := Lib.hid (show (m = 1 ∧ p ≤ 65536) ∨ (p = 2 ∧ m ≤ 16) by omega)
  have hg : (if primeB p then p ^ m else 0 : Nat) ≤ 65536 := by
    split
    · exact pow_le16 HC.out (Nat.le_refl _)
    · omega
  obtain ⟨R, hR⟩ : ∃ R, R = (if primeB p then p ^ m else 0 : Nat) := ⟨_, rfl⟩
  rw [← hR] at hg ⊢
  have HR := Lib.hid hR
  clear hR
  have f1 : decide ((p : Int) < 2) = false := by simp; omega
  have f2 : decide (65536 < (p : Int)) = false := by simp; omega
  have f3 : decide ((m : Int) < 1) = false := by simp; omega
  have f4 : decide (16 < (m : Int)) = false := by simp; omega
  have hp2 : 2 ≤ p := by omega
  have hp6 : p ≤ 65536 := by omega
  have hm16 : m ≤ 16 := by omega
  by_cases hm1 : m = 1
  · have f5 : decide (1 < (m : Int)) = false := by simp; omega
    clear h5 h1 h2 h3 h4 hm1
    go_enter Tryd.func10, Tryd.ntmps10
    go_wp2_with fail
    go_loop [3] (fun iv => ∃ i : Nat, iv = .int .i64 i ∧ 2 ≤ i ∧ i ≤ p ∧ Hid (upTo p i)) (fun iv => 70000 - (intOf iv).toNat)
    case atStart => exact ⟨2, rfl, Nat.le_refl _, by omega, Lib.hid fun d h1 h2 => by omega⟩
    case round =>
      obtain ⟨i, rfl, hi2, hip, hup⟩ := hrel
      by_cases hlt : i < p
      · by_cases hz : p % i = 0
        · have HV := Lib.hid (show R = 0 by
            rw [HR.out, if_neg]
            intro hpr
            exact ((primeB_iff p).1 hpr).2 i hlt hi2 hz)
          have D : (((p : Nat) : Int) % (i : Int) == 0) = true := by rw [← Int.natCast_emod, hz]; rfl
          clear hz HR
          go_wp2_with fail
          go_ret
          exact ⟨ret_int (by rw [HV.out]; rfl), hb.out⟩
        · have HN := Lib.hid (show upTo p (i + 1) from fun d h1 h2 => by
            by_cases e : d = i
            · subst e; exact hz
            · exact hup.out d h1 (by omega))
          have D : (((p : Nat) : Int) % (i : Int) == 0) = false := by rw [← Int.natCast_emod]; simp; omega
          clear hz
          go_wp2_with fail
          go_round
          case rel => exact ⟨i + 1, by go_num, by omega, by omega, HN⟩
          case measure => simp [intOf]; omega
      · have HRR := Lib.hid (show R = p ^ m by
          rw [HR.out, if_pos]
          rw [primeB_iff]
          exact ⟨by omega, fun d hd h2 => hup.out d h2 (by omega)⟩)
        go_wp2_with fail
        go_loop [4, 5] (fun qv jv => ∃ (j Q : Nat), jv = .int .i64 j ∧ qv = .int .i64 Q ∧ j ≤ m ∧ Q ≤ 65536 ∧ Hid (Q = p ^ j)) (fun _ jv => m - (intOf jv).toNat)
        case atStart => exact ⟨0, 1, rfl, rfl, Nat.zero_le _, by omega, Lib.hid (by simp)⟩
        case round =>
          obtain ⟨j, Q, rfl, rfl, hj, hQ, hQe⟩ := hrel
          by_cases hjm : j < m
          · have hle := pow_le16 HC.out (show j + 1 ≤ m by omega)
            have hpr : Q * p = p ^ (j + 1) := by rw [hQe.out]; exact pow_step p j
            rw [← hpr] at hle
            have hpi : (Q : Int) * ((p : Nat) : Int) = ((Q * p : Nat) : Int) := by rw [Int.natCast_mul]
            obtain ⟨Q2, hQ2⟩ : ∃ Q2, Q2 = Q * p := ⟨_, rfl⟩
            rw [← hQ2] at hle hpr hpi
            have HP := Lib.hid hpr
            clear hpr hQ2
            go_wp2_with fail
            go_round
            case rel => exact ⟨j + 1, Q2, by go_num, rfl, by omega, hle, HP⟩
            case measure => simp [intOf]; omega
          · have hje : j = m := by omega
            have HV := Lib.hid (show R = Q by rw [HRR.out, hQe.out, hje])
            clear hje
            go_wp2_with fail
            go_ret
            exact ⟨ret_int (by rw [HV.out]), hb.out⟩
  · have f5 : decide (1 < (m : Int)) = true := by simp; omega
    have f6 : ((p : Int) != 2) = false := by simp; omega
    clear h5 h1 h2 h3 h4 hm1
    go_enter Tryd.func10, Tryd.ntmps10
    go_wp2_with fail
    go_loop [3] (fun iv => ∃ i : Nat, iv = .int .i64 i ∧ 2 ≤ i ∧ i ≤ p ∧ Hid (upTo p i)) (fun iv => 70000 - (intOf iv).toNat)
    case atStart => exact ⟨2, rfl, Nat.le_refl _, by omega, Lib.hid fun d h1 h2 => by omega⟩
    case round =>
      obtain ⟨i, rfl, hi2, hip, hup⟩ := hrel
      by_cases hlt : i < p
      · by_cases hz : p % i = 0
        · have HV := Lib.hid (show R = 0 by
            rw [HR.out, if_neg]
            intro hpr
            exact ((primeB_iff p).1 hpr).2 i hlt hi2 hz)
          have D : (((p : Nat) : Int) % (i : Int) == 0) = true := by rw [← Int.natCast_emod, hz]; rfl
          clear hz HR
          go_wp2_with fail
          go_ret
          exact ⟨ret_int (by rw [HV.out]; rfl), hb.out⟩
        · have HN := Lib.hid (show upTo p (i + 1) from fun d h1 h2 => by
            by_cases e : d = i
            · subst e; exact hz
            · exact hup.out d h1 (by omega))
          have D : (((p : Nat) : Int) % (i : Int) == 0) = false := by rw [← Int.natCast_emod]; simp; omega
          clear hz
          go_wp2_with fail
          go_round
          case rel => exact ⟨i + 1, by go_num, by omega, by omega, HN⟩
          case measure => simp [intOf]; omega
      · have HRR := Lib.hid (show R = p ^ m by
          rw [HR.out, if_pos]
          rw [primeB_iff]
          exact ⟨by omega, fun d hd h2 => hup.out d h2 (by omega)⟩)
        go_wp2_with fail
        go_loop [4, 5] (fun qv jv => ∃ (j Q : Nat), jv = .int .i64 j ∧ qv = .int .i64 Q ∧ j ≤ m ∧ Q ≤ 65536 ∧ Hid (Q = p ^ j)) (fun _ jv => m - (intOf jv).toNat)
        case atStart => exact ⟨0, 1, rfl, rfl, Nat.zero_le _, by omega, Lib.hid (by simp)⟩
        case round =>
          obtain ⟨j, Q, rfl, rfl, hj, hQ, hQe⟩ := hrel
          by_cases hjm : j < m
          · have hle := pow_le16 HC.out (show j + 1 ≤ m by omega)
            have hpr : Q * p = p ^ (j + 1) := by rw [hQe.out]; exact pow_step p j
            rw [← hpr] at hle
            have hpi : (Q : Int) * ((p : Nat) : Int) = ((Q * p : Nat) : Int) := by rw [Int.natCast_mul]
            obtain ⟨Q2, hQ2⟩ : ∃ Q2, Q2 = Q * p := ⟨_, rfl⟩
            rw [← hQ2] at hle hpr hpi
            have HP := Lib.hid hpr
            clear hpr hQ2
            go_wp2_with fail
            go_round
            case rel => exact ⟨j + 1, Q2, by go_num, rfl, by omega, hle, HP⟩
            case measure => simp [intOf]; omega
          · have hje : j = m := by omega
            have HV := Lib.hid (show R = Q by rw [HRR.out, hQe.out, hje])
            clear hje
            go_wp2_with fail
            go_ret
            exact ⟨ret_int (by rw [HV.out]), hb.out⟩

theorem reford_yes (p m : Nat) (w : World) (h : Vf p m) : Calls Tryd.prog 10 #[.agg #[.int .i64 p, .int .i64 m]] w fun e w' => e = .returned (.int .i64 (fQ p m : Nat)) ∧ Below w.heap.size w w' := by
  have hf : fitF p m = true := by
    unfold fitF
    rw [decide_eq_true_iff]
    rcases h with ⟨rfl, h2, hp, _⟩ | ⟨rfl, h2, hm⟩ <;> omega
  have hp : primeB p = true := by
    rcases h with ⟨_, _, _, h⟩ | ⟨rfl, _⟩
    · exact h
    · decide
  refine (reford_fit p m w hf).mono fun e w' ⟨he, hb⟩ => ⟨?_, hb⟩
  rw [he, if_pos hp, fQ_pow h]
theorem reford_no (P M : Int) (w : World) (h : validF P M = false) : Calls Tryd.prog 10 #[.agg #[.int .i64 P, .int .i64 M]] w fun e w' => e = .returned (.int .i64 0) ∧ Below w.heap.size w w' := by
  cases hf : fitF P M with
  | false => exact reford_unfit P M w hf
  | true =>
    have h' := of_decide_eq_true hf
    obtain ⟨p, rfl⟩ := Int.eq_ofNat_of_zero_le (show 0 ≤ P by omega)
    obtain ⟨m, rfl⟩ := Int.eq_ofNat_of_zero_le (show 0 ≤ M by omega)
    have hp : ¬ primeB p = true := fun hp => by
      have : validF p m = true := by
        by_cases e : m = 1
        · subst e; exact validF_prime (by omega) (by omega) hp
        · obtain rfl : p = 2 := by omega
          exact validF_poly (by omega) (by omega)
      rw [this] at h; cases h
    refine (reford_fit p m w hf).mono fun e w' ⟨he, hb⟩ => ⟨?_, hb⟩
    rw [he, if_neg hp]; rfl
set_option maxHeartbeats 1000000 in
theorem refvalid_any (P M : Int) (w : World) : Calls Tryd.prog 20 #[.agg #[.int .i64 P, .int .i64 M]] w fun e w' => e = .returned (.bool (validF P M)) ∧ Below w.heap.size w w' := by
  cases h : validF P M with
  | false =>
    have H := Lib.hid h
    clear h
    go_enter Tryd.func20, Tryd.ntmps20
    go_wp2_with fail
    refine (reford_no P M _ H.out).mono ?_
    rintro e w1 ⟨rfl, b1⟩
    go_wp2_with fail
    go_ret
    exact ⟨rfl, ((Below.refl _ w).alloc (Nat.le_refl _) _).trans (b1.mono (by simp))⟩
  | true =>
    obtain ⟨p, m, rfl, rfl, hv⟩ := Vf.of h
    have hq := hv.q
    have H := Lib.hid hv
    clear h hv
    obtain ⟨q, hq0⟩ : ∃ q, q = fQ p m := ⟨_, rfl⟩
    rw [← hq0] at hq
    have HQ := Lib.hid hq0
    clear hq0
    go_enter Tryd.func20, Tryd.ntmps20
    go_wp2_with fail
    refine (reford_yes p m _ H.out).mono ?_
    rintro e w1 ⟨rfl, b1⟩
    rw [← HQ.out]
    go_wp2_with fail
    go_ret
    exact ⟨ret_bool (by simp; omega), ((Below.refl _ w).alloc (Nat.le_refl _) _).trans (b1.mono (by simp))⟩
end Go.Proofs.YtmenkahkdcjkiaaDoor
