/- The walk of FieldValid. -/
import Derived.Test.YtmenkahkdcjkiaaDoorProg
import Derived.Test.YtmenkahkdcjkiaaDoorBase
import Derived.Test.YtmenkahkdcjkiaaDoorFops
import Derived.Test.YtmenkahkdcjkiaaDoorRmod
import Derived.Test.YtmenkahkdcjkiaaDoorRord
import Derived.Test.YtmenkahkdcjkiaaDoorAlive3
namespace Go.Proofs.YtmenkahkdcjkiaaDoor
open Go.RowKit

set_option maxHeartbeats 4000000 in
theorem fvalid_law (P M : Int) (w : World) (hw : Tab w) : Calls Tryd.prog 3 #[.agg #[.int .i64 P, .int .i64 M]] w fun e w' => e = .returned (.bool true) ∧ Below w.heap.size w w' := by
  have W0 := Lib.hid (hw.below ((Below.refl _ w).alloc (Nat.le_refl _) (.cells #[.int .i64 P, .int .i64 M] 23)))
  have B0 := Lib.hid ((Below.refl _ w).alloc (Nat.le_refl _) (.cells #[.int .i64 P, .int .i64 M] 23))
  have K0 := Lib.hid (Blk.new w 23 #[.int .i64 P, .int .i64 M])
  cases h : validF P M with
  | false =>
    have H := Lib.hid h
    clear h
    go_enter Tryd.func3, Tryd.ntmps3
    go_wp2_with fail
    refine (reford_no P M _ H.out).mono ?_
    rintro e w1 ⟨rfl, b1⟩
    have W1 := Lib.hid (W0.out.below b1)
    have B1 := Lib.hid (B0.out.trans (b1.mono B0.out.size))
    have K1 := Lib.hid (K0.out.below b1)
    have c0 : w1.cell? ⟨w.heap.size, 0, none⟩ = some (.int .i64 P) := K1.out.cell 0
    have c1 : w1.cell? ⟨w.heap.size, 1, none⟩ = some (.int .i64 M) := K1.out.cell 1
    clear b1
    go_wp2_with fail
    refine (Modulus_no P M _ W1.out H.out).mono ?_
    rintro e w2 ⟨rfl, b2⟩
    have W2 := Lib.hid (W1.out.below b2)
    have B2 := Lib.hid (B1.out.trans (b2.mono B1.out.size))
    have K2 := Lib.hid (K1.out.below b2)
    have c0 : w2.cell? ⟨w.heap.size, 0, none⟩ = some (.int .i64 P) := K2.out.cell 0
    have c1 : w2.cell? ⟨w.heap.size, 1, none⟩ = some (.int .i64 M) := K2.out.cell 1
    clear b2
    go_wp2_with fail
    refine (valid_any P M _ W2.out).mono ?_
    rintro e w3 ⟨rfl, b3⟩
    rw [H.out]
    have W3 := Lib.hid (W2.out.below b3)
    have B3 := Lib.hid (B2.out.trans (b3.mono B2.out.size))
    have K3 := Lib.hid (K2.out.below b3)
    have c0 : w3.cell? ⟨w.heap.size, 0, none⟩ = some (.int .i64 P) := K3.out.cell 0
    have c1 : w3.cell? ⟨w.heap.size, 1, none⟩ = some (.int .i64 M) := K3.out.cell 1
    clear b3
    go_wp2_with fail
    refine (Order_no P M _ W3.out H.out).mono ?_
    rintro e w4 ⟨rfl, b4⟩
    have W4 := Lib.hid (W3.out.below b4)
    have B4 := Lib.hid (B3.out.trans (b4.mono B3.out.size))
    clear b4
    go_wp2_with fail
    refine (is_bad 1 0 _ rfl).mono ?_
    rintro e w' ⟨rfl, rfl⟩
    go_wp2_with fail
    refine (alive_any _ W4.out).mono ?_
    rintro e w5 ⟨rfl, b5⟩
    have B5 := Lib.hid (B4.out.trans (b5.mono B4.out.size))
    clear b5
    go_wp2_with fail
    go_ret
    exact ⟨rfl, B5.out⟩
  | true =>
    obtain ⟨p, m, rfl, rfl, hv⟩ := Vf.of h
    have hq := hv.q
    have hm : m = 1 ∨ (2 ≤ m ∧ m ≤ 16) := by rcases hv with ⟨h, _⟩ | ⟨_, h⟩ <;> omega
    have H := Lib.hid hv
    clear h hv
    obtain ⟨q, hq0⟩ : ∃ q, q = fQ p m := ⟨_, rfl⟩
    rw [← hq0] at hq
    have HQ := Lib.hid hq0
    clear hq0
    go_enter Tryd.func3, Tryd.ntmps3
    go_wp2_with fail
    refine (reford_yes p m _ H.out).mono ?_
    rintro e w1 ⟨rfl, b1⟩
    rw [← HQ.out]
    have W1 := Lib.hid (W0.out.below b1)
    have B1 := Lib.hid (B0.out.trans (b1.mono B0.out.size))
    have K1 := Lib.hid (K0.out.below b1)
    have c0 : w1.cell? ⟨w.heap.size, 0, none⟩ = some (.int .i64 p) := K1.out.cell 0
    have c1 : w1.cell? ⟨w.heap.size, 1, none⟩ = some (.int .i64 m) := K1.out.cell 1
    clear b1
    have D : decide (0 < (q : Int)) = true := by simp; omega
    rcases hm with rfl | ⟨h2, h16⟩
    · go_wp2_with fail
      refine (Modulus_yes p 1 _ W1.out H.out).mono ?_
      rintro e w2 ⟨rfl, b2⟩
      rw [show (((if (1 : Nat) = 1 then 0 else modl 1 : Nat)) : Int) = 0 from rfl, show (if (1 : Nat) = 1 then (6 : Int) else 0) = 6 from rfl]
      have W2 := Lib.hid (W1.out.below b2)
      have B2 := Lib.hid (B1.out.trans (b2.mono B1.out.size))
      have K2 := Lib.hid (K1.out.below b2)
      have c0 : w2.cell? ⟨w.heap.size, 0, none⟩ = some (.int .i64 p) := K2.out.cell 0
      have c1 : w2.cell? ⟨w.heap.size, 1, none⟩ = some (.int .i64 ((1 : Nat) : Int)) := K2.out.cell 1
      clear b2
      go_wp2_with fail
      refine (valid_any p 1 _ W2.out).mono ?_
      rintro e w3 ⟨rfl, b3⟩
      rw [show validF (p : Int) 1 = true from H.out.valid]
      have W3 := Lib.hid (W2.out.below b3)
      have B3 := Lib.hid (B2.out.trans (b3.mono B2.out.size))
      have K3 := Lib.hid (K2.out.below b3)
      have c0 : w3.cell? ⟨w.heap.size, 0, none⟩ = some (.int .i64 p) := K3.out.cell 0
      have c1 : w3.cell? ⟨w.heap.size, 1, none⟩ = some (.int .i64 ((1 : Nat) : Int)) := K3.out.cell 1
      clear b3
      go_wp2_with fail
      refine (Order_yes p 1 _ W3.out H.out).mono ?_
      rintro e w4 ⟨rfl, b4⟩
      rw [← HQ.out]
      have W4 := Lib.hid (W3.out.below b4)
      have B4 := Lib.hid (B3.out.trans (b4.mono B3.out.size))
      clear b4
      go_wp2_with fail
      refine (is_bad 6 0 _ rfl).mono ?_
      rintro e w' ⟨rfl, rfl⟩
      go_wp2_with fail
      refine (alive_any _ W4.out).mono ?_
      rintro e w5 ⟨rfl, b5⟩
      have B5 := Lib.hid (B4.out.trans (b5.mono B4.out.size))
      clear b5
      go_wp2_with fail
      go_ret
      exact ⟨rfl, B5.out⟩
    · have H1 := Lib.hid (show ¬ m = 1 by omega)
      go_wp2_with fail
      refine (refmod_any m _ h2 h16).mono ?_
      rintro e w' ⟨rfl, rfl⟩
      obtain ⟨T, hT⟩ : ∃ T, T = modl m := ⟨_, rfl⟩
      rw [← hT]
      have HT := Lib.hid hT
      clear hT
      go_wp2_with fail
      refine (Modulus_yes p m _ W1.out H.out).mono ?_
      rintro e w2 ⟨rfl, b2⟩
      rw [if_neg H1.out, if_neg H1.out, ← HT.out]
      have W2 := Lib.hid (W1.out.below b2)
      have B2 := Lib.hid (B1.out.trans (b2.mono B1.out.size))
      have K2 := Lib.hid (K1.out.below b2)
      have c0 : w2.cell? ⟨w.heap.size, 0, none⟩ = some (.int .i64 p) := K2.out.cell 0
      have c1 : w2.cell? ⟨w.heap.size, 1, none⟩ = some (.int .i64 m) := K2.out.cell 1
      clear b2
      go_wp2_with fail
      refine (valid_any p m _ W2.out).mono ?_
      rintro e w3 ⟨rfl, b3⟩
      rw [H.out.valid]
      have W3 := Lib.hid (W2.out.below b3)
      have B3 := Lib.hid (B2.out.trans (b3.mono B2.out.size))
      have K3 := Lib.hid (K2.out.below b3)
      have c0 : w3.cell? ⟨w.heap.size, 0, none⟩ = some (.int .i64 p) := K3.out.cell 0
      have c1 : w3.cell? ⟨w.heap.size, 1, none⟩ = some (.int .i64 m) := K3.out.cell 1
      clear b3
      go_wp2_with fail
      refine (Order_yes p m _ W3.out H.out).mono ?_
      rintro e w4 ⟨rfl, b4⟩
      rw [← HQ.out]
      have W4 := Lib.hid (W3.out.below b4)
      have B4 := Lib.hid (B3.out.trans (b4.mono B3.out.size))
      clear b4
      go_wp2_with fail
      refine (is_ok T _).mono ?_
      rintro e w' ⟨rfl, rfl⟩
      go_wp2_with fail
      refine (alive_any _ W4.out).mono ?_
      rintro e w5 ⟨rfl, b5⟩
      have B5 := Lib.hid (B4.out.trans (b5.mono B4.out.size))
      clear b5
      go_wp2_with fail
      go_ret
      exact ⟨rfl, B5.out⟩
end Go.Proofs.YtmenkahkdcjkiaaDoor
