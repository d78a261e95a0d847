/- field.isPrime, field.Valid and field.arithmeticOf by their meaning, where the two tables hold what the program's text lays. -/
import Derived.Test.YtmenkahkdcjkiaaDoorProg
import Derived.Test.YtmenkahkdcjkiaaDoorBase
import Derived.Test.YtmenkahkdcjkiaaDoorAri
import Derived.Deep.QuietTactic
import Derived.BigQuiet
import Derived.Outline
namespace Go.Proofs.YtmenkahkdcjkiaaDoor
open Go.RowKit

/-- the table of the small primes -/
def Prms (w : World) : Prop := ∃ b off c, w.cell? ⟨1, 0, none⟩ = some (.slice (some ⟨b, off, none⟩) 54 c) ∧ ∀ i, i < 54 → w.cell? ⟨b, off + i, none⟩ = some (.int .u32 (smallP.getD i 0 : Nat))
/-- both tables -/
def Tab (w : World) : Prop := Mod w ∧ Prms w
theorem Tab.below {w w' : World} (h : Tab w) (hb : Below w.heap.size w w') : Tab w' := by
  obtain ⟨h1, b, off, c, h2, h3⟩ := h
  refine ⟨fun i hi => ?_, b, off, c, ?_, fun i hi => ?_⟩
  · have := h1 i hi
    exact (hb.cell (p := ⟨0, i, none⟩) (World.block_lt_of_cell? w _ this)).trans this
  · exact (hb.cell (p := ⟨1, 0, none⟩) (World.block_lt_of_cell? w _ h2)).trans h2
  · have := h3 i hi
    exact (hb.cell (p := ⟨b, off + i, none⟩) (World.block_lt_of_cell? w _ this)).trans this

set_option maxHeartbeats 1000000 in
theorem isprime_any (n : Nat) (w : World) (h2 : 2 ≤ n) (hn : n ≤ 65536) (hw : Tab w) : Calls Tryd.prog 39 #[.int .i64 n] w fun e w' => e = .returned (.bool (primeB n)) ∧ w = w' := by
  obtain ⟨_, b, off, c, hg, hc⟩ := hw
  have HC := Lib.hid hc
  clear hc
  go_enter Tryd.func39, Tryd.ntmps39
  go_wp2
  go_loop [5, 10] (fun _ iv => ∃ k : Nat, k ≤ 54 ∧ iv = .int .i64 k ∧ Hid (∀ i, i < k → n % smallP.getD i 0 ≠ 0)) (fun _ iv => 54 - (intOf iv).toNat)
  case atStart => exact ⟨0, Nat.zero_le _, rfl, Lib.hid fun i hi => absurd hi (Nat.not_lt_zero i)⟩
  case round =>
    obtain ⟨k, hk, rfl, hi⟩ := hrel
    by_cases hlt : k < 54
    · obtain ⟨x1, x2⟩ := smallP_ge _ (smallP_get k hlt)
      have g := HC.out k hlt
      have D1 := Lib.hid (fun h => primeB_of_break h2 hn hlt h hi.out)
      have D2 := Lib.hid (fun h h' => primeB_no (n := n) hlt h h')
      have D3 := Lib.hid (fun (h : n % smallP.getD k 0 ≠ 0) i (hik : i < k + 1) => if e : i = k then e ▸ h else hi.out i (by omega))
      obtain ⟨x, hx⟩ : ∃ x, x = smallP.getD k 0 := ⟨_, rfl⟩
      rw [← hx] at x1 x2 g D1 D2 D3
      clear hx
      have m1 : (x : Int) * x ≤ 251 * 251 := Int.mul_le_mul (by omega) (by omega) (by omega) (by omega)
      have m0 : 0 ≤ (x : Int) * x := Int.mul_nonneg (by omega) (by omega)
      by_cases hbr : n < x * x
      · have HV := Lib.hid (D1.out hbr)
        have hbr' : (n : Int) < (x : Int) * x := by rw [← Int.natCast_mul]; exact Int.ofNat_lt.2 hbr
        clear hbr
        go_wp2
        go_ret
        exact ⟨ret_bool HV.out.symm, rfl⟩
      · have hbr' : ¬ (n : Int) < (x : Int) * x := by rw [← Int.natCast_mul]; exact fun h => hbr (Int.ofNat_lt.1 h)
        by_cases hm : n % x = 0
        · have D : ((n : Int) % (x : Int) == 0) = true := by rw [← Int.natCast_emod, hm]; rfl
          have HV := Lib.hid (D2.out hbr hm)
          clear hbr hm
          go_wp2
          go_ret
          exact ⟨ret_bool HV.out.symm, rfl⟩
        · have D : ((n : Int) % (x : Int) == 0) = false := by rw [← Int.natCast_emod]; simp; omega
          have HV := Lib.hid (D3.out hm)
          clear hbr hm
          go_wp2
          go_round
          case rel => exact ⟨k + 1, by omega, by go_num, HV⟩
          case measure => simp [intOf]; omega
    · have hke : k = 54 := by omega
      subst hke
      have HV := Lib.hid (primeB_of_all h2 hn hi.out)
      go_wp2
      go_ret
      exact ⟨ret_bool HV.out.symm, rfl⟩

/-- the field of P and M is valid -/
def validF (P M : Int) : Bool := if P = 2 then decide (1 ≤ M ∧ M ≤ 16) else (decide (M = 1 ∧ 2 < P ∧ P ≤ 65536) && primeB P.toNat)

set_option maxHeartbeats 1000000 in
theorem valid_any (P M : Int) (w : World) (hw : Tab w) : Calls Tryd.prog 13 #[.agg #[.int .i64 P, .int .i64 M]] w fun e w' => e = .returned (.bool (validF P M)) ∧ Below w.heap.size w w' := by
  have HW := Lib.hid (hw.below ((Below.refl _ w).alloc (Nat.le_refl _) (.cells #[.int .i64 P, .int .i64 M] 23)))
  have hb := Lib.hid ((Below.refl _ w).alloc (Nat.le_refl _) (.cells #[.int .i64 P, .int .i64 M] 23))
  by_cases h2 : P = 2
  · have HV := Lib.hid (show validF P M = decide (1 ≤ M ∧ M ≤ 16) from if_pos h2)
    subst h2
    by_cases h1 : 1 ≤ M
    · by_cases h16 : M ≤ 16
      · go_enter Tryd.func13, Tryd.ntmps13
        go_wp2_with fail
        go_ret
        exact ⟨ret_bool (by rw [HV.out, decide_eq_true ⟨h1, h16⟩]), hb.out⟩
      · go_enter Tryd.func13, Tryd.ntmps13
        go_wp2_with fail
        go_ret
        exact ⟨ret_bool (by rw [HV.out, decide_eq_false (by omega)]), hb.out⟩
    · go_enter Tryd.func13, Tryd.ntmps13
      go_wp2_with fail
      go_ret
      exact ⟨ret_bool (by rw [HV.out, decide_eq_false (by omega)]), hb.out⟩
  · have HN := Lib.hid h2
    have h2' : (P == 2) = false := by simpa using h2
    clear h2
    by_cases hd : M = 1 ∧ 2 < P ∧ P ≤ 65536
    · obtain ⟨rfl, h3, h4⟩ := hd
      obtain ⟨n, rfl⟩ := Int.eq_ofNat_of_zero_le (show 0 ≤ P by omega)
      have HV := Lib.hid (show validF n 1 = primeB n by unfold validF; rw [if_neg HN.out, decide_eq_true ⟨rfl, h3, h4⟩]; simp)
      go_enter Tryd.func13, Tryd.ntmps13
      go_wp2_with fail
      refine (isprime_any n _ (by omega) (by omega) HW.out).mono ?_
      rintro e w' ⟨rfl, rfl⟩
      go_wp2
      go_ret
      exact ⟨ret_bool HV.out.symm, hb.out⟩
    · have HV := Lib.hid (show validF P M = false by unfold validF; rw [if_neg HN.out, decide_eq_false hd]; rfl)
      by_cases h1 : M = 1
      · subst h1
        by_cases h3 : 2 < P
        · have h4 : ¬ P ≤ 65536 := fun h => hd ⟨rfl, h3, h⟩
          clear hd
          go_enter Tryd.func13, Tryd.ntmps13
          go_wp2_with fail
          go_ret
          exact ⟨ret_bool HV.out.symm, hb.out⟩
        · clear hd
          go_enter Tryd.func13, Tryd.ntmps13
          go_wp2_with fail
          go_ret
          exact ⟨ret_bool HV.out.symm, hb.out⟩
      · have h1' : (M == 1) = false := by simpa using h1
        clear hd h1
        go_enter Tryd.func13, Tryd.ntmps13
        go_wp2_with fail
        go_ret
        exact ⟨ret_bool HV.out.symm, hb.out⟩

theorem validF_cases {P M : Int} (h : validF P M = true) : ∃ p m : Nat, P = p ∧ M = m ∧ ((m = 1 ∧ 2 ≤ p ∧ p ≤ 65536 ∧ primeB p = true) ∨ (p = 2 ∧ 2 ≤ m ∧ m ≤ 16)) := by
  unfold validF at h
  split at h
  · rename_i h2
    subst h2
    have h1 := of_decide_eq_true h
    obtain ⟨m, rfl⟩ := Int.eq_ofNat_of_zero_le (show 0 ≤ M by omega)
    refine ⟨2, m, rfl, rfl, ?_⟩
    by_cases e : m = 1
    · exact .inl ⟨e, by omega, by omega, by decide⟩
    · exact .inr ⟨rfl, by omega, by omega⟩
  · rw [Bool.and_eq_true] at h
    have h1 := of_decide_eq_true h.1
    obtain ⟨n, rfl⟩ := Int.eq_ofNat_of_zero_le (show 0 ≤ P by omega)
    exact ⟨n, 1, rfl, h1.1, .inl ⟨rfl, by omega, by omega, by simpa using h.2⟩⟩
theorem validF_prime {p : Nat} (h2 : 2 ≤ p) (hp : p ≤ 65536) (h : primeB p = true) : validF p 1 = true := by
  unfold validF
  split
  · rfl
  · rw [decide_eq_true ⟨rfl, by omega, by omega⟩]; simpa using h
theorem validF_poly {m : Nat} (h2 : 2 ≤ m) (hm : m ≤ 16) : validF 2 m = true := by
  unfold validF
  rw [if_pos rfl]; exact decide_eq_true ⟨by omega, by omega⟩

/-- the interface value of the field of P and M -/
def arith (P M : Int) : Value := if M = 1 then .iface 58 (.int .i64 P) else .iface 59 (.int .i64 M)

set_option maxHeartbeats 1000000 in
theorem arithOf_no (P M : Int) (w : World) (hw : Tab w) (h : validF P M = false) : Calls Tryd.prog 40 #[.agg #[.int .i64 P, .int .i64 M]] w fun e w' => e = .returned (.tuple #[.nilIface, .int .i64 1]) ∧ Below w.heap.size w w' := by
  have HW := Lib.hid (hw.below ((Below.refl _ w).alloc (Nat.le_refl _) (.cells #[.int .i64 P, .int .i64 M] 23)))
  have B0 := Lib.hid ((Below.refl _ w).alloc (Nat.le_refl _) (.cells #[.int .i64 P, .int .i64 M] 23))
  have H := Lib.hid h
  clear h
  go_enter Tryd.func40, Tryd.ntmps40
  go_wp2_with fail
  refine (valid_any P M _ HW.out).mono ?_
  rintro e w1 ⟨rfl, b1⟩
  rw [H.out]
  have B1 := Lib.hid (B0.out.trans (b1.mono B0.out.size))
  go_wp2_with fail
  go_ret2
  exact ⟨rfl, B1.out⟩
set_option maxHeartbeats 1000000 in
theorem arithOf_yes (P M : Int) (w : World) (hw : Tab w) (h : validF P M = true) : Calls Tryd.prog 40 #[.agg #[.int .i64 P, .int .i64 M]] w fun e w' => e = .returned (.tuple #[arith P M, .int .i64 0]) ∧ Below w.heap.size w w' := by
  have HW := Lib.hid (hw.below ((Below.refl _ w).alloc (Nat.le_refl _) (.cells #[.int .i64 P, .int .i64 M] 23)))
  have B0 := Lib.hid ((Below.refl _ w).alloc (Nat.le_refl _) (.cells #[.int .i64 P, .int .i64 M] 23))
  have H := Lib.hid h
  clear h
  go_enter Tryd.func40, Tryd.ntmps40
  go_wp2_with fail
  refine (valid_any P M _ HW.out).mono ?_
  rintro e w1 ⟨rfl, b1⟩
  rw [H.out]
  have B1 := Lib.hid (B0.out.trans (b1.mono B0.out.size))
  obtain ⟨hc, hf⟩ := bcell b1
  by_cases h1 : M = 1
  · have HA := Lib.hid (show arith P M = _ from if_pos h1)
    subst h1
    go_wp2_with fail
    go_ret2
    exact ⟨by rw [HA.out]; rfl, B1.out⟩
  · have HA := Lib.hid (show arith P M = _ from if_neg h1)
    have h1' : (M == 1) = false := by simpa using h1
    clear h1
    go_wp2_with fail
    go_ret2
    exact ⟨by rw [HA.out]; rfl, B1.out⟩
end Go.Proofs.YtmenkahkdcjkiaaDoor
