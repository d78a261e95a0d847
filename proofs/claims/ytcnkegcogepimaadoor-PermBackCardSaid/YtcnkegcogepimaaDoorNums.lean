/- perm.factorial and perm.leastMultiple compute the factorial and the least common multiple of small numbers. -/
import Derived.Test.YtcnkegcogepimaaDoorProg
import Derived.Test.YtcnkegcogepimaaDoorBase
import Derived.Test.YtcnkegcogepimaaDoorLists
namespace Go.Proofs.YtcnkegcogepimaaDoor
open Go.RowKit

def fact : Nat → Nat
  | 0 => 1
  | n + 1 => (n + 1) * fact n
theorem fact_le (n : Nat) (h : n ≤ 7) : 1 ≤ fact n ∧ fact n ≤ 5040 := by
  rcases n with _ | _ | _ | _ | _ | _ | _ | _ | n <;> first | decide | omega

set_option maxHeartbeats 400000 in
theorem factorial_any (n : Nat) (w : World) (hn : n ≤ 7) :
    Calls Tryd.prog 35 #[.int .i64 n] w fun e w' => e = .returned (.int .i64 (fact n)) ∧ w = w' := by
  go_enter Tryd.func35, Tryd.ntmps35
  go_wp2
  go_loop [3, 4] (fun f i => ∃ k : Nat, 1 ≤ k ∧ (k ≤ n ∨ k = 1) ∧ i = .int .i64 ((k + 1 : Nat) : Int) ∧ f = .int .i64 (fact k)) (fun _ i => n + 1 - (intOf i).toNat)
  case atStart => exact ⟨1, by omega, by omega, rfl, rfl⟩
  case round =>
    obtain ⟨k, hk1, hk, rfl, rfl⟩ := hrel
    have hb := fact_le k (by omega)
    by_cases hlt : k + 1 ≤ n
    · have hb2 := fact_le (k + 1) (by omega)
      have e : ((fact k : Int) * ((k : Int) + 1)) = ((fact (k + 1) : Nat) : Int) := by rw [fact, Int.natCast_mul, Int.mul_comm]; rfl
      obtain ⟨F, hF⟩ : ∃ F, F = fact (k + 1) := ⟨_, rfl⟩
      rw [← hF] at e hb2
      obtain ⟨f, hf⟩ : ∃ f, f = fact k := ⟨_, rfl⟩
      rw [← hf] at e hb ⊢
      have H1 := Lib.hid hF
      have HE := Lib.hid e
      have b1 : 0 ≤ (f : Int) * ((k : Int) + 1) := by omega
      have b2 : (f : Int) * ((k : Int) + 1) ≤ 5040 := by omega
      clear hF hf e
      go_wp2
      go_round
      case rel => exact ⟨k + 1, by omega, by omega, by go_num, by rw [← H1.out, ← HE.out]⟩
      case measure => simp [intOf]; omega
    · go_wp2
      go_ret
      refine ⟨?_, rfl⟩
      rcases Nat.lt_or_ge n 2 with h | h
      · obtain rfl : k = 1 := by omega
        rcases n with _ | _ | n
        · rfl
        · rfl
        · omega
      · obtain rfl : k = n := by omega
        rfl

theorem dvd_step (a b m : Nat) (hm : a ∣ m) (hl : m ≤ Nat.lcm a b) (hn : m % b ≠ 0) : m + a ≤ Nat.lcm a b := by
  have hd : a ∣ Nat.lcm a b := Nat.dvd_lcm_left a b
  obtain ⟨c, hc⟩ := hm
  obtain ⟨d, hd⟩ := hd
  have hne : m ≠ Nat.lcm a b := fun e => hn (by rw [e]; exact Nat.mod_eq_zero_of_dvd (Nat.dvd_lcm_right a b))
  have hlt : a * c < a * d := by rw [← hc, ← hd]; omega
  have : c < d := Nat.lt_of_mul_lt_mul_left hlt
  rw [hc, hd]
  calc a * c + a = a * (c + 1) := by rw [Nat.mul_add, Nat.mul_one]
    _ ≤ a * d := Nat.mul_le_mul_left a this

set_option maxHeartbeats 400000 in
theorem least_any (a b : Nat) (w : World) (ha : 1 ≤ a) (hb : 1 ≤ b) (ha' : a ≤ 1000) (hb' : b ≤ 1000) :
    Calls Tryd.prog 39 #[.int .i64 a, .int .i64 b] w fun e w' => e = .returned (.int .i64 (Nat.lcm a b)) ∧ w = w' := by
  have hL : Nat.lcm a b ≤ 1000000 := Nat.le_trans (Nat.le_of_dvd (Nat.mul_pos ha hb) (Nat.lcm_dvd_mul a b)) (Nat.mul_le_mul ha' hb')
  have hab : a ≤ Nat.lcm a b := Nat.le_of_dvd (Nat.lcm_pos ha hb) (Nat.dvd_lcm_left a b)
  go_enter Tryd.func39, Tryd.ntmps39
  go_wp2
  go_loop [5] (fun i => ∃ m : Nat, 1 ≤ m ∧ m ≤ Nat.lcm a b ∧ Hid (a ∣ m) ∧ i = .int .i64 m) (fun i => Nat.lcm a b - (intOf i).toNat)
  case atStart => exact ⟨a, by omega, hab, Lib.hid (Nat.dvd_refl a), rfl⟩
  case round =>
    obtain ⟨m, hm1, hml, hd, rfl⟩ := hrel
    by_cases hz : m % b = 0
    · have hr : ((m : Int) % (b : Int) != 0) = false := by simp; omega
      have hz' := Lib.hid hz
      clear hz
      go_wp2
      go_ret
      refine ⟨ret_int ?_, rfl⟩
      have : Nat.lcm a b ∣ m := Nat.lcm_dvd hd.out (Nat.dvd_of_mod_eq_zero hz'.out)
      have := Nat.le_of_dvd (by omega) this
      omega
    · have hr : ((m : Int) % (b : Int) != 0) = true := by simp; omega
      have hs := dvd_step a b m hd.out hml hz
      clear hz
      go_wp2
      go_round
      case rel => exact ⟨m + a, by omega, hs, Lib.hid (Nat.dvd_add hd.out (Nat.dvd_refl a)), by go_num⟩
      case measure => simp [intOf]; omega
end Go.Proofs.YtcnkegcogepimaaDoor
