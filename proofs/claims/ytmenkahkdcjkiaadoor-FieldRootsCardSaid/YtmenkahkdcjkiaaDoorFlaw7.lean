/- The walk of FieldRoots. -/
import Derived.Test.YtmenkahkdcjkiaaDoorProg
import Derived.Test.YtmenkahkdcjkiaaDoorBase
import Derived.Test.YtmenkahkdcjkiaaDoorFops
import Derived.Test.YtmenkahkdcjkiaaDoorFinv
import Derived.Test.YtmenkahkdcjkiaaDoorRsum
import Derived.Test.YtmenkahkdcjkiaaDoorSumL
import Derived.Test.YtmenkahkdcjkiaaDoorAlive3
import Derived.Test.YtmenkahkdcjkiaaDoorRord
import Derived.Test.YtmenkahkdcjkiaaDoorRkit
import Derived.Test.YtmenkahkdcjkiaaDoorRmet
import Derived.Test.YtmenkahkdcjkiaaDoorRroot
namespace Go.Proofs.YtmenkahkdcjkiaaDoor
open Go.RowKit

set_option maxRecDepth 100000 in
set_option maxHeartbeats 4000000 in
theorem roots_form_small (P M n x : Int) (w : World) (hw : Tab w) (h : validF P M = false) (hn : n ≤ 3000) : Calls Tryd.prog 6 #[.agg #[.int .i64 P, .int .i64 M], .int .i64 n, .int .i64 x] w fun r w' => r = .returned (.bool true) ∧ Below w.heap.size w w' := by
  have W0 := Lib.hid (hw.below ((Below.refl _ w).alloc (Nat.le_refl _) (.cells #[.int .i64 P, .int .i64 M] 23)))
  have B0 := Lib.hid ((Below.refl _ w).alloc (Nat.le_refl _) (.cells #[.int .i64 P, .int .i64 M] 23))
  have K0 := Lib.hid (Blk.new w 23 #[.int .i64 P, .int .i64 M])
  have H := Lib.hid h
  have d2 : decide (3000 < n) = false := decide_eq_false (by omega)
  clear h
  go_enter Tryd.func6, Tryd.ntmps6
  go_wp2_with fail
  refine (Root_form P M n _ W0.out H.out).mono ?_
  rintro e0 w1 ⟨rfl, b1⟩
  have W1 := Lib.hid (W0.out.below b1)
  have B1 := Lib.hid (B0.out.trans (b1.mono B0.out.size))
  have K1 := Lib.hid (K0.out.below b1)
  clear b1
  have c0 : w1.cell? ⟨w.heap.size, 0, none⟩ = some (.int .i64 P) := K1.out.cell 0
  have c1 : w1.cell? ⟨w.heap.size, 1, none⟩ = some (.int .i64 M) := K1.out.cell 1
  go_wp2_with fail
  refine (Sum_form P M n x _ W1.out H.out).mono ?_
  rintro e0 w2 ⟨rfl, b2⟩
  have W2 := Lib.hid (W1.out.below b2)
  have B2 := Lib.hid (B1.out.trans (b2.mono B1.out.size))
  have K2 := Lib.hid (K1.out.below b2)
  clear b2 c0 c1
  have c0 : w2.cell? ⟨w.heap.size, 0, none⟩ = some (.int .i64 P) := K2.out.cell 0
  have c1 : w2.cell? ⟨w.heap.size, 1, none⟩ = some (.int .i64 M) := K2.out.cell 1
  go_wp2_with fail
  refine (refvalid_any P M _).mono ?_
  rintro e0 w3 ⟨rfl, b3⟩
  rw [H.out]
  have W3 := Lib.hid (W2.out.below b3)
  have B3 := Lib.hid (B2.out.trans (b3.mono B2.out.size))
  have K3 := Lib.hid (K2.out.below b3)
  clear b3 c0 c1
  go_wp2_with fail
  refine (is_bad 1 0 _ rfl).mono ?_
  rintro e0 w' ⟨rfl, rfl⟩
  go_wp2_with fail
  refine (is_bad 1 0 _ rfl).mono ?_
  rintro e0 w' ⟨rfl, rfl⟩
  go_wp2_with fail
  refine (alive_any _ W3.out).mono ?_
  rintro e0 w99 ⟨rfl, b99⟩
  have B99 := Lib.hid (B3.out.trans (b99.mono B3.out.size))
  clear b99
  go_wp2_with fail
  go_ret
  exact ⟨rfl, B99.out⟩

set_option maxRecDepth 100000 in
set_option maxHeartbeats 4000000 in
theorem roots_form_big (P M n x : Int) (w : World) (hw : Tab w) (h : validF P M = false) (hn : ¬ n ≤ 3000) : Calls Tryd.prog 6 #[.agg #[.int .i64 P, .int .i64 M], .int .i64 n, .int .i64 x] w fun r w' => r = .returned (.bool true) ∧ Below w.heap.size w w' := by
  have W0 := Lib.hid (hw.below ((Below.refl _ w).alloc (Nat.le_refl _) (.cells #[.int .i64 P, .int .i64 M] 23)))
  have B0 := Lib.hid ((Below.refl _ w).alloc (Nat.le_refl _) (.cells #[.int .i64 P, .int .i64 M] 23))
  have K0 := Lib.hid (Blk.new w 23 #[.int .i64 P, .int .i64 M])
  have H := Lib.hid h
  have d2 : decide (3000 < n) = true := decide_eq_true (by omega)
  clear h
  go_enter Tryd.func6, Tryd.ntmps6
  go_wp2_with fail
  refine (refvalid_any P M _).mono ?_
  rintro e0 w1 ⟨rfl, b1⟩
  rw [H.out]
  have W1 := Lib.hid (W0.out.below b1)
  have B1 := Lib.hid (B0.out.trans (b1.mono B0.out.size))
  have K1 := Lib.hid (K0.out.below b1)
  clear b1
  have c0 : w1.cell? ⟨w.heap.size, 0, none⟩ = some (.int .i64 P) := K1.out.cell 0
  have c1 : w1.cell? ⟨w.heap.size, 1, none⟩ = some (.int .i64 M) := K1.out.cell 1
  go_wp2_with fail
  refine (Root_form P M n _ W1.out H.out).mono ?_
  rintro e0 w2 ⟨rfl, b2⟩
  have W2 := Lib.hid (W1.out.below b2)
  have B2 := Lib.hid (B1.out.trans (b2.mono B1.out.size))
  have K2 := Lib.hid (K1.out.below b2)
  clear b2 c0 c1
  have c0 : w2.cell? ⟨w.heap.size, 0, none⟩ = some (.int .i64 P) := K2.out.cell 0
  have c1 : w2.cell? ⟨w.heap.size, 1, none⟩ = some (.int .i64 M) := K2.out.cell 1
  go_wp2_with fail
  refine (Sum_form P M n x _ W2.out H.out).mono ?_
  rintro e0 w3 ⟨rfl, b3⟩
  have W3 := Lib.hid (W2.out.below b3)
  have B3 := Lib.hid (B2.out.trans (b3.mono B2.out.size))
  have K3 := Lib.hid (K2.out.below b3)
  clear b3 c0 c1
  have c0 : w3.cell? ⟨w.heap.size, 0, none⟩ = some (.int .i64 P) := K3.out.cell 0
  have c1 : w3.cell? ⟨w.heap.size, 1, none⟩ = some (.int .i64 M) := K3.out.cell 1
  go_wp2_with fail
  refine (refvalid_any P M _).mono ?_
  rintro e0 w4 ⟨rfl, b4⟩
  rw [H.out]
  have W4 := Lib.hid (W3.out.below b4)
  have B4 := Lib.hid (B3.out.trans (b4.mono B3.out.size))
  have K4 := Lib.hid (K3.out.below b4)
  clear b4 c0 c1
  go_wp2_with fail
  refine (is_bad 1 0 _ rfl).mono ?_
  rintro e0 w' ⟨rfl, rfl⟩
  go_wp2_with fail
  refine (is_bad 1 0 _ rfl).mono ?_
  rintro e0 w' ⟨rfl, rfl⟩
  go_wp2_with fail
  refine (alive_any _ W4.out).mono ?_
  rintro e0 w99 ⟨rfl, b99⟩
  have B99 := Lib.hid (B4.out.trans (b99.mono B4.out.size))
  clear b99
  go_wp2_with fail
  go_ret
  exact ⟨rfl, B99.out⟩

set_option maxRecDepth 100000 in
set_option maxHeartbeats 4000000 in
theorem roots_alive (p m n : Nat) (x : Int) (w : World) (hw : Tab w) (h : Vf p m) (hn : ¬ n ≤ 3000) (hd : n ∣ fQ p m - 1) : Calls Tryd.prog 6 #[.agg #[.int .i64 p, .int .i64 m], .int .i64 n, .int .i64 x] w fun r w' => r = .returned (.bool true) ∧ Below w.heap.size w w' := by
  have W0 := Lib.hid (hw.below ((Below.refl _ w).alloc (Nat.le_refl _) (.cells #[.int .i64 p, .int .i64 m] 23)))
  have B0 := Lib.hid ((Below.refl _ w).alloc (Nat.le_refl _) (.cells #[.int .i64 p, .int .i64 m] 23))
  have K0 := Lib.hid (Blk.new w 23 #[.int .i64 p, .int .i64 m])
  have H := Lib.hid h
  have d2 : decide (3000 < (n : Int)) = true := decide_eq_true (by omega)
  obtain ⟨q, hQ⟩ : ∃ q, q = fQ p m := ⟨_, rfl⟩
  have HQ := Lib.hid hQ
  have hq := h.q
  rw [← hQ] at hq hd
  have D0 : (((q : Int) - 1) % (n : Int) == 0) = true := by
    rw [show ((q : Int) - 1) = ((q - 1 : Nat) : Int) by omega, ← Int.natCast_emod, Nat.mod_eq_zero_of_dvd hd]; rfl
  clear h hQ hd
  go_enter Tryd.func6, Tryd.ntmps6
  go_wp2_with fail
  refine (refvalid_any p m _).mono ?_
  rintro e0 w1 ⟨rfl, b1⟩
  rw [H.out.valid]
  have W1 := Lib.hid (W0.out.below b1)
  have B1 := Lib.hid (B0.out.trans (b1.mono B0.out.size))
  have K1 := Lib.hid (K0.out.below b1)
  clear b1
  have c0 : w1.cell? ⟨w.heap.size, 0, none⟩ = some (.int .i64 p) := K1.out.cell 0
  have c1 : w1.cell? ⟨w.heap.size, 1, none⟩ = some (.int .i64 m) := K1.out.cell 1
  go_wp2_with fail
  refine (reford_yes p m _ H.out).mono ?_
  rintro e0 w2 ⟨rfl, b2⟩
  rw [← HQ.out]
  have W2 := Lib.hid (W1.out.below b2)
  have B2 := Lib.hid (B1.out.trans (b2.mono B1.out.size))
  have K2 := Lib.hid (K1.out.below b2)
  clear b2 c0 c1
  go_wp2_with fail
  refine (alive_any _ W2.out).mono ?_
  rintro e0 w99 ⟨rfl, b99⟩
  have B99 := Lib.hid (B2.out.trans (b99.mono B2.out.size))
  clear b99
  go_wp2_with fail
  go_ret
  exact ⟨rfl, B99.out⟩

set_option maxRecDepth 100000 in
set_option maxHeartbeats 4000000 in
theorem roots_arg (p m : Nat) (n x : Int) (w : World) (hw : Tab w) (h : Vf p m) (hn : n < 1) (hsum : ∀ w, Tab w → Calls Tryd.prog 31 #[.agg #[.int .i64 p, .int .i64 m], .int .i64 n, .int .i64 x] w fun e w' => e = .returned (.tuple #[.int .i64 0, .int .i64 2]) ∧ Below w.heap.size w w') : Calls Tryd.prog 6 #[.agg #[.int .i64 p, .int .i64 m], .int .i64 n, .int .i64 x] w fun r w' => r = .returned (.bool true) ∧ Below w.heap.size w w' := by
  have W0 := Lib.hid (hw.below ((Below.refl _ w).alloc (Nat.le_refl _) (.cells #[.int .i64 p, .int .i64 m] 23)))
  have B0 := Lib.hid ((Below.refl _ w).alloc (Nat.le_refl _) (.cells #[.int .i64 p, .int .i64 m] 23))
  have K0 := Lib.hid (Blk.new w 23 #[.int .i64 p, .int .i64 m])
  have H := Lib.hid h
  have HS := Lib.hid hsum
  have d2 : decide (3000 < n) = false := decide_eq_false (by omega)
  obtain ⟨q, hQ⟩ : ∃ q, q = fQ p m := ⟨_, rfl⟩
  obtain ⟨T, hT⟩ : ∃ T, T = modK m := ⟨_, rfl⟩
  have HK := Lib.hid (show kitV p m = .agg #[.int .i64 p, .int .i64 m, .int .i64 q, .int .i64 T] by rw [hQ, hT]; rfl)
  have HQ := Lib.hid hQ
  have hq := h.q
  rw [← hQ] at hq
  clear h hQ hT hsum
  go_enter Tryd.func6, Tryd.ntmps6
  go_wp2_with fail
  refine (Root_arg p m n _ W0.out H.out hn).mono ?_
  rintro e0 w1 ⟨rfl, b1⟩
  have W1 := Lib.hid (W0.out.below b1)
  have B1 := Lib.hid (B0.out.trans (b1.mono B0.out.size))
  have K1 := Lib.hid (K0.out.below b1)
  clear b1
  have c0 : w1.cell? ⟨w.heap.size, 0, none⟩ = some (.int .i64 p) := K1.out.cell 0
  have c1 : w1.cell? ⟨w.heap.size, 1, none⟩ = some (.int .i64 m) := K1.out.cell 1
  go_wp2_with fail
  refine (HS.out _ W1.out).mono ?_
  rintro e0 w2 ⟨rfl, b2⟩
  have W2 := Lib.hid (W1.out.below b2)
  have B2 := Lib.hid (B1.out.trans (b2.mono B1.out.size))
  have K2 := Lib.hid (K1.out.below b2)
  clear b2 c0 c1
  have c0 : w2.cell? ⟨w.heap.size, 0, none⟩ = some (.int .i64 p) := K2.out.cell 0
  have c1 : w2.cell? ⟨w.heap.size, 1, none⟩ = some (.int .i64 m) := K2.out.cell 1
  go_wp2_with fail
  refine (refvalid_any p m _).mono ?_
  rintro e0 w3 ⟨rfl, b3⟩
  rw [H.out.valid]
  have W3 := Lib.hid (W2.out.below b3)
  have B3 := Lib.hid (B2.out.trans (b3.mono B2.out.size))
  have K3 := Lib.hid (K2.out.below b3)
  clear b3 c0 c1
  have c0 : w3.cell? ⟨w.heap.size, 0, none⟩ = some (.int .i64 p) := K3.out.cell 0
  have c1 : w3.cell? ⟨w.heap.size, 1, none⟩ = some (.int .i64 m) := K3.out.cell 1
  go_wp2_with fail
  refine (of_any p m _ H.out).mono ?_
  rintro e0 w4 ⟨rfl, b4⟩
  rw [HK.out]
  have W4 := Lib.hid (W3.out.below b4)
  have B4 := Lib.hid (B3.out.trans (b4.mono B3.out.size))
  clear b4 c0 c1
  go_wp2_with fail
  refine (is_bad 2 0 _ rfl).mono ?_
  rintro e0 w' ⟨rfl, rfl⟩
  go_wp2_with fail
  refine (is_bad 2 0 _ rfl).mono ?_
  rintro e0 w' ⟨rfl, rfl⟩
  go_wp2_with fail
  have W5 := Lib.hid (W4.out.below ((Below.refl _ w4).alloc (Nat.le_refl _) (.cells #[.int .i64 p, .int .i64 m, .int .i64 q, .int .i64 T] 34)))
  have B5 := Lib.hid (B4.out.alloc B4.out.size (.cells #[.int .i64 p, .int .i64 m, .int .i64 q, .int .i64 T] 34))
  refine (alive_any _ W5.out).mono ?_
  rintro e0 w99 ⟨rfl, b99⟩
  have B99 := Lib.hid (B5.out.trans (b99.mono B5.out.size))
  clear b99
  go_wp2_with fail
  go_ret
  exact ⟨rfl, B99.out⟩

set_option maxRecDepth 100000 in
set_option maxHeartbeats 4000000 in
theorem roots_none_small_neg (p m n : Nat) (x : Int) (w : World) (hw : Tab w) (h : Vf p m) (h1 : 1 ≤ n) (hn : n ≤ 3000) (hd : ¬ n ∣ fQ p m - 1) (hx : x < 0) : Calls Tryd.prog 6 #[.agg #[.int .i64 p, .int .i64 m], .int .i64 n, .int .i64 x] w fun r w' => r = .returned (.bool true) ∧ Below w.heap.size w w' := by
  have W0 := Lib.hid (hw.below ((Below.refl _ w).alloc (Nat.le_refl _) (.cells #[.int .i64 p, .int .i64 m] 23)))
  have B0 := Lib.hid ((Below.refl _ w).alloc (Nat.le_refl _) (.cells #[.int .i64 p, .int .i64 m] 23))
  have K0 := Lib.hid (Blk.new w 23 #[.int .i64 p, .int .i64 m])
  have H := Lib.hid h
  have HD := Lib.hid hd
  have d2 : decide (3000 < (n : Int)) = false := decide_eq_false (by omega)
  obtain ⟨q, hQ⟩ : ∃ q, q = fQ p m := ⟨_, rfl⟩
  obtain ⟨T, hT⟩ : ∃ T, T = modK m := ⟨_, rfl⟩
  have HK := Lib.hid (show kitV p m = .agg #[.int .i64 p, .int .i64 m, .int .i64 q, .int .i64 T] by rw [hQ, hT]; rfl)
  have HQ := Lib.hid hQ
  have hq := h.q
  rw [← hQ] at hq
  rw [← hQ] at hd
  have hne : ((q : Int) - 1) % (n : Int) ≠ 0 := by
    rw [show ((q : Int) - 1) = ((q - 1 : Nat) : Int) by omega, ← Int.natCast_emod]
    intro e0
    exact hd (Nat.dvd_of_mod_eq_zero (by omega))
  have D0 : (((q : Int) - 1) % (n : Int) == 0) = false := by simpa using hne
  have D1 : (((q : Int) - 1) % (n : Int) != 0) = true := by simpa using hne
  have HNE := Lib.hid (show ((fQ p m : Int) - 1) % (n : Int) ≠ 0 by rw [← hQ]; exact hne)
  have d3 : decide (x < 0) = true := decide_eq_true hx
  clear h hQ hT hd hne
  go_enter Tryd.func6, Tryd.ntmps6
  go_wp2_with fail
  refine (Root_none p m n _ W0.out H.out h1 HD.out).mono ?_
  rintro e0 w1 ⟨rfl, b1⟩
  have W1 := Lib.hid (W0.out.below b1)
  have B1 := Lib.hid (B0.out.trans (b1.mono B0.out.size))
  have K1 := Lib.hid (K0.out.below b1)
  clear b1
  have c0 : w1.cell? ⟨w.heap.size, 0, none⟩ = some (.int .i64 p) := K1.out.cell 0
  have c1 : w1.cell? ⟨w.heap.size, 1, none⟩ = some (.int .i64 m) := K1.out.cell 1
  go_wp2_with fail
  refine (Sum_neg p m n x _ W1.out H.out hx).mono ?_
  rintro e0 w2 ⟨rfl, b2⟩
  have W2 := Lib.hid (W1.out.below b2)
  have B2 := Lib.hid (B1.out.trans (b2.mono B1.out.size))
  have K2 := Lib.hid (K1.out.below b2)
  clear b2 c0 c1
  have c0 : w2.cell? ⟨w.heap.size, 0, none⟩ = some (.int .i64 p) := K2.out.cell 0
  have c1 : w2.cell? ⟨w.heap.size, 1, none⟩ = some (.int .i64 m) := K2.out.cell 1
  go_wp2_with fail
  refine (refvalid_any p m _).mono ?_
  rintro e0 w3 ⟨rfl, b3⟩
  rw [H.out.valid]
  have W3 := Lib.hid (W2.out.below b3)
  have B3 := Lib.hid (B2.out.trans (b3.mono B2.out.size))
  have K3 := Lib.hid (K2.out.below b3)
  clear b3 c0 c1
  have c0 : w3.cell? ⟨w.heap.size, 0, none⟩ = some (.int .i64 p) := K3.out.cell 0
  have c1 : w3.cell? ⟨w.heap.size, 1, none⟩ = some (.int .i64 m) := K3.out.cell 1
  go_wp2_with fail
  refine (of_any p m _ H.out).mono ?_
  rintro e0 w4 ⟨rfl, b4⟩
  rw [HK.out]
  have W4 := Lib.hid (W3.out.below b4)
  have B4 := Lib.hid (B3.out.trans (b4.mono B3.out.size))
  clear b4 c0 c1
  go_wp2_with fail
  obtain ⟨g, hg⟩ : ∃ g, g = w4.heap.size := ⟨_, rfl⟩
  have hG := Blk.new w4 34 #[.int .i64 p, .int .i64 m, .int .i64 q, .int .i64 T]
  rw [← hg] at hG
  have hB := B4.out.alloc B4.out.size (.cells #[.int .i64 p, .int .i64 m, .int .i64 q, .int .i64 T] 34)
  have hW := W4.out.below ((Below.refl _ w4).alloc (Nat.le_refl _) (.cells #[.int .i64 p, .int .i64 m, .int .i64 q, .int .i64 T] 34))
  try rw [← hg]
  clear hg
  change Calls _ _ _ (w4.alloc (.cells #[.int .i64 p, .int .i64 m, .int .i64 q, .int .i64 T] 34)) _
  obtain ⟨w5, hw5⟩ : ∃ w5, w5 = (w4.alloc (.cells #[.int .i64 p, .int .i64 m, .int .i64 q, .int .i64 T] 34)) := ⟨_, rfl⟩
  rw [← hw5] at hG hB hW ⊢
  have W5 := Lib.hid hW
  have B5 := Lib.hid hB
  have G5 := Lib.hid hG
  clear hw5 hG hB hW
  refine (show Calls _ _ #[.agg #[.int .i64 p, .int .i64 m, .int .i64 q, .int .i64 T], .int .i64 n] _ _ from HK.out ▸ kroot_none p m n _ H.out (.inr HNE.out)).mono ?_
  rintro e0 w6 ⟨rfl, b6⟩
  have W6 := Lib.hid (W5.out.below b6)
  have B6 := Lib.hid (B5.out.trans (b6.mono B5.out.size))
  have G6 := Lib.hid (G5.out.below b6)
  clear b6
  go_wp2_with fail
  refine (is_bad 6 0 _ rfl).mono ?_
  rintro e0 w' ⟨rfl, rfl⟩
  go_wp2_with fail
  refine (is_bad 2 0 _ rfl).mono ?_
  rintro e0 w' ⟨rfl, rfl⟩
  go_wp2_with fail
  refine (alive_any _ W6.out).mono ?_
  rintro e0 w99 ⟨rfl, b99⟩
  have B99 := Lib.hid (B6.out.trans (b99.mono B6.out.size))
  clear b99
  go_wp2_with fail
  go_ret
  exact ⟨rfl, B99.out⟩

set_option maxRecDepth 100000 in
set_option maxHeartbeats 4000000 in
theorem roots_none_small_pos (p m n : Nat) (x : Nat) (w : World) (hw : Tab w) (h : Vf p m) (h1 : 1 ≤ n) (hn : n ≤ 3000) (hd : ¬ n ∣ fQ p m - 1) : Calls Tryd.prog 6 #[.agg #[.int .i64 p, .int .i64 m], .int .i64 n, .int .i64 x] w fun r w' => r = .returned (.bool true) ∧ Below w.heap.size w w' := by
  have W0 := Lib.hid (hw.below ((Below.refl _ w).alloc (Nat.le_refl _) (.cells #[.int .i64 p, .int .i64 m] 23)))
  have B0 := Lib.hid ((Below.refl _ w).alloc (Nat.le_refl _) (.cells #[.int .i64 p, .int .i64 m] 23))
  have K0 := Lib.hid (Blk.new w 23 #[.int .i64 p, .int .i64 m])
  have H := Lib.hid h
  have HD := Lib.hid hd
  have d2 : decide (3000 < (n : Int)) = false := decide_eq_false (by omega)
  obtain ⟨q, hQ⟩ : ∃ q, q = fQ p m := ⟨_, rfl⟩
  obtain ⟨T, hT⟩ : ∃ T, T = modK m := ⟨_, rfl⟩
  have HK := Lib.hid (show kitV p m = .agg #[.int .i64 p, .int .i64 m, .int .i64 q, .int .i64 T] by rw [hQ, hT]; rfl)
  have HQ := Lib.hid hQ
  have hq := h.q
  rw [← hQ] at hq
  rw [← hQ] at hd
  have hne : ((q : Int) - 1) % (n : Int) ≠ 0 := by
    rw [show ((q : Int) - 1) = ((q - 1 : Nat) : Int) by omega, ← Int.natCast_emod]
    intro e0
    exact hd (Nat.dvd_of_mod_eq_zero (by omega))
  have D0 : (((q : Int) - 1) % (n : Int) == 0) = false := by simpa using hne
  have D1 : (((q : Int) - 1) % (n : Int) != 0) = true := by simpa using hne
  have HNE := Lib.hid (show ((fQ p m : Int) - 1) % (n : Int) ≠ 0 by rw [← hQ]; exact hne)
  have d3 : decide ((x : Int) < 0) = false := decide_eq_false (by omega)
  clear h hQ hT hd hne
  go_enter Tryd.func6, Tryd.ntmps6
  go_wp2_with fail
  refine (Root_none p m n _ W0.out H.out h1 HD.out).mono ?_
  rintro e0 w1 ⟨rfl, b1⟩
  have W1 := Lib.hid (W0.out.below b1)
  have B1 := Lib.hid (B0.out.trans (b1.mono B0.out.size))
  have K1 := Lib.hid (K0.out.below b1)
  clear b1
  have c0 : w1.cell? ⟨w.heap.size, 0, none⟩ = some (.int .i64 p) := K1.out.cell 0
  have c1 : w1.cell? ⟨w.heap.size, 1, none⟩ = some (.int .i64 m) := K1.out.cell 1
  go_wp2_with fail
  refine (Sum_none p m n x _ W1.out H.out h1 HD.out).mono ?_
  rintro e0 w2 ⟨rfl, b2⟩
  have W2 := Lib.hid (W1.out.below b2)
  have B2 := Lib.hid (B1.out.trans (b2.mono B1.out.size))
  have K2 := Lib.hid (K1.out.below b2)
  clear b2 c0 c1
  have c0 : w2.cell? ⟨w.heap.size, 0, none⟩ = some (.int .i64 p) := K2.out.cell 0
  have c1 : w2.cell? ⟨w.heap.size, 1, none⟩ = some (.int .i64 m) := K2.out.cell 1
  go_wp2_with fail
  refine (refvalid_any p m _).mono ?_
  rintro e0 w3 ⟨rfl, b3⟩
  rw [H.out.valid]
  have W3 := Lib.hid (W2.out.below b3)
  have B3 := Lib.hid (B2.out.trans (b3.mono B2.out.size))
  have K3 := Lib.hid (K2.out.below b3)
  clear b3 c0 c1
  have c0 : w3.cell? ⟨w.heap.size, 0, none⟩ = some (.int .i64 p) := K3.out.cell 0
  have c1 : w3.cell? ⟨w.heap.size, 1, none⟩ = some (.int .i64 m) := K3.out.cell 1
  go_wp2_with fail
  refine (of_any p m _ H.out).mono ?_
  rintro e0 w4 ⟨rfl, b4⟩
  rw [HK.out]
  have W4 := Lib.hid (W3.out.below b4)
  have B4 := Lib.hid (B3.out.trans (b4.mono B3.out.size))
  clear b4 c0 c1
  go_wp2_with fail
  obtain ⟨g, hg⟩ : ∃ g, g = w4.heap.size := ⟨_, rfl⟩
  have hG := Blk.new w4 34 #[.int .i64 p, .int .i64 m, .int .i64 q, .int .i64 T]
  rw [← hg] at hG
  have hB := B4.out.alloc B4.out.size (.cells #[.int .i64 p, .int .i64 m, .int .i64 q, .int .i64 T] 34)
  have hW := W4.out.below ((Below.refl _ w4).alloc (Nat.le_refl _) (.cells #[.int .i64 p, .int .i64 m, .int .i64 q, .int .i64 T] 34))
  try rw [← hg]
  clear hg
  change Calls _ _ _ (w4.alloc (.cells #[.int .i64 p, .int .i64 m, .int .i64 q, .int .i64 T] 34)) _
  obtain ⟨w5, hw5⟩ : ∃ w5, w5 = (w4.alloc (.cells #[.int .i64 p, .int .i64 m, .int .i64 q, .int .i64 T] 34)) := ⟨_, rfl⟩
  rw [← hw5] at hG hB hW ⊢
  have W5 := Lib.hid hW
  have B5 := Lib.hid hB
  have G5 := Lib.hid hG
  clear hw5 hG hB hW
  refine (show Calls _ _ #[.agg #[.int .i64 p, .int .i64 m, .int .i64 q, .int .i64 T], .int .i64 n] _ _ from HK.out ▸ kroot_none p m n _ H.out (.inr HNE.out)).mono ?_
  rintro e0 w6 ⟨rfl, b6⟩
  have W6 := Lib.hid (W5.out.below b6)
  have B6 := Lib.hid (B5.out.trans (b6.mono B5.out.size))
  have G6 := Lib.hid (G5.out.below b6)
  clear b6
  go_wp2_with fail
  refine (is_bad 6 0 _ rfl).mono ?_
  rintro e0 w' ⟨rfl, rfl⟩
  go_wp2_with fail
  refine (is_bad 6 0 _ rfl).mono ?_
  rintro e0 w' ⟨rfl, rfl⟩
  go_wp2_with fail
  refine (alive_any _ W6.out).mono ?_
  rintro e0 w99 ⟨rfl, b99⟩
  have B99 := Lib.hid (B6.out.trans (b99.mono B6.out.size))
  clear b99
  go_wp2_with fail
  go_ret
  exact ⟨rfl, B99.out⟩

set_option maxRecDepth 100000 in
set_option maxHeartbeats 4000000 in
theorem roots_none_big_neg (p m n : Nat) (x : Int) (w : World) (hw : Tab w) (h : Vf p m) (h1 : 1 ≤ n) (hn : ¬ n ≤ 3000) (hd : ¬ n ∣ fQ p m - 1) (hx : x < 0) : Calls Tryd.prog 6 #[.agg #[.int .i64 p, .int .i64 m], .int .i64 n, .int .i64 x] w fun r w' => r = .returned (.bool true) ∧ Below w.heap.size w w' := by
  have W0 := Lib.hid (hw.below ((Below.refl _ w).alloc (Nat.le_refl _) (.cells #[.int .i64 p, .int .i64 m] 23)))
  have B0 := Lib.hid ((Below.refl _ w).alloc (Nat.le_refl _) (.cells #[.int .i64 p, .int .i64 m] 23))
  have K0 := Lib.hid (Blk.new w 23 #[.int .i64 p, .int .i64 m])
  have H := Lib.hid h
  have HD := Lib.hid hd
  have d2 : decide (3000 < (n : Int)) = true := decide_eq_true (by omega)
  obtain ⟨q, hQ⟩ : ∃ q, q = fQ p m := ⟨_, rfl⟩
  obtain ⟨T, hT⟩ : ∃ T, T = modK m := ⟨_, rfl⟩
  have HK := Lib.hid (show kitV p m = .agg #[.int .i64 p, .int .i64 m, .int .i64 q, .int .i64 T] by rw [hQ, hT]; rfl)
  have HQ := Lib.hid hQ
  have hq := h.q
  rw [← hQ] at hq
  rw [← hQ] at hd
  have hne : ((q : Int) - 1) % (n : Int) ≠ 0 := by
    rw [show ((q : Int) - 1) = ((q - 1 : Nat) : Int) by omega, ← Int.natCast_emod]
    intro e0
    exact hd (Nat.dvd_of_mod_eq_zero (by omega))
  have D0 : (((q : Int) - 1) % (n : Int) == 0) = false := by simpa using hne
  have D1 : (((q : Int) - 1) % (n : Int) != 0) = true := by simpa using hne
  have HNE := Lib.hid (show ((fQ p m : Int) - 1) % (n : Int) ≠ 0 by rw [← hQ]; exact hne)
  have d3 : decide (x < 0) = true := decide_eq_true hx
  clear h hQ hT hd hne
  go_enter Tryd.func6, Tryd.ntmps6
  go_wp2_with fail
  refine (refvalid_any p m _).mono ?_
  rintro e0 w1 ⟨rfl, b1⟩
  rw [H.out.valid]
  have W1 := Lib.hid (W0.out.below b1)
  have B1 := Lib.hid (B0.out.trans (b1.mono B0.out.size))
  have K1 := Lib.hid (K0.out.below b1)
  clear b1
  have c0 : w1.cell? ⟨w.heap.size, 0, none⟩ = some (.int .i64 p) := K1.out.cell 0
  have c1 : w1.cell? ⟨w.heap.size, 1, none⟩ = some (.int .i64 m) := K1.out.cell 1
  go_wp2_with fail
  refine (reford_yes p m _ H.out).mono ?_
  rintro e0 w2 ⟨rfl, b2⟩
  rw [← HQ.out]
  have W2 := Lib.hid (W1.out.below b2)
  have B2 := Lib.hid (B1.out.trans (b2.mono B1.out.size))
  have K2 := Lib.hid (K1.out.below b2)
  clear b2 c0 c1
  have c0 : w2.cell? ⟨w.heap.size, 0, none⟩ = some (.int .i64 p) := K2.out.cell 0
  have c1 : w2.cell? ⟨w.heap.size, 1, none⟩ = some (.int .i64 m) := K2.out.cell 1
  go_wp2_with fail
  refine (Root_none p m n _ W2.out H.out h1 HD.out).mono ?_
  rintro e0 w3 ⟨rfl, b3⟩
  have W3 := Lib.hid (W2.out.below b3)
  have B3 := Lib.hid (B2.out.trans (b3.mono B2.out.size))
  have K3 := Lib.hid (K2.out.below b3)
  clear b3 c0 c1
  have c0 : w3.cell? ⟨w.heap.size, 0, none⟩ = some (.int .i64 p) := K3.out.cell 0
  have c1 : w3.cell? ⟨w.heap.size, 1, none⟩ = some (.int .i64 m) := K3.out.cell 1
  go_wp2_with fail
  refine (Sum_neg p m n x _ W3.out H.out hx).mono ?_
  rintro e0 w4 ⟨rfl, b4⟩
  have W4 := Lib.hid (W3.out.below b4)
  have B4 := Lib.hid (B3.out.trans (b4.mono B3.out.size))
  have K4 := Lib.hid (K3.out.below b4)
  clear b4 c0 c1
  have c0 : w4.cell? ⟨w.heap.size, 0, none⟩ = some (.int .i64 p) := K4.out.cell 0
  have c1 : w4.cell? ⟨w.heap.size, 1, none⟩ = some (.int .i64 m) := K4.out.cell 1
  go_wp2_with fail
  refine (refvalid_any p m _).mono ?_
  rintro e0 w5 ⟨rfl, b5⟩
  rw [H.out.valid]
  have W5 := Lib.hid (W4.out.below b5)
  have B5 := Lib.hid (B4.out.trans (b5.mono B4.out.size))
  have K5 := Lib.hid (K4.out.below b5)
  clear b5 c0 c1
  have c0 : w5.cell? ⟨w.heap.size, 0, none⟩ = some (.int .i64 p) := K5.out.cell 0
  have c1 : w5.cell? ⟨w.heap.size, 1, none⟩ = some (.int .i64 m) := K5.out.cell 1
  go_wp2_with fail
  refine (of_any p m _ H.out).mono ?_
  rintro e0 w6 ⟨rfl, b6⟩
  rw [HK.out]
  have W6 := Lib.hid (W5.out.below b6)
  have B6 := Lib.hid (B5.out.trans (b6.mono B5.out.size))
  clear b6 c0 c1
  go_wp2_with fail
  obtain ⟨g, hg⟩ : ∃ g, g = w6.heap.size := ⟨_, rfl⟩
  have hG := Blk.new w6 34 #[.int .i64 p, .int .i64 m, .int .i64 q, .int .i64 T]
  rw [← hg] at hG
  have hB := B6.out.alloc B6.out.size (.cells #[.int .i64 p, .int .i64 m, .int .i64 q, .int .i64 T] 34)
  have hW := W6.out.below ((Below.refl _ w6).alloc (Nat.le_refl _) (.cells #[.int .i64 p, .int .i64 m, .int .i64 q, .int .i64 T] 34))
  try rw [← hg]
  clear hg
  change Calls _ _ _ (w6.alloc (.cells #[.int .i64 p, .int .i64 m, .int .i64 q, .int .i64 T] 34)) _
  obtain ⟨w7, hw7⟩ : ∃ w7, w7 = (w6.alloc (.cells #[.int .i64 p, .int .i64 m, .int .i64 q, .int .i64 T] 34)) := ⟨_, rfl⟩
  rw [← hw7] at hG hB hW ⊢
  have W7 := Lib.hid hW
  have B7 := Lib.hid hB
  have G7 := Lib.hid hG
  clear hw7 hG hB hW
  refine (show Calls _ _ #[.agg #[.int .i64 p, .int .i64 m, .int .i64 q, .int .i64 T], .int .i64 n] _ _ from HK.out ▸ kroot_none p m n _ H.out (.inr HNE.out)).mono ?_
  rintro e0 w8 ⟨rfl, b8⟩
  have W8 := Lib.hid (W7.out.below b8)
  have B8 := Lib.hid (B7.out.trans (b8.mono B7.out.size))
  have G8 := Lib.hid (G7.out.below b8)
  clear b8
  go_wp2_with fail
  refine (is_bad 6 0 _ rfl).mono ?_
  rintro e0 w' ⟨rfl, rfl⟩
  go_wp2_with fail
  refine (is_bad 2 0 _ rfl).mono ?_
  rintro e0 w' ⟨rfl, rfl⟩
  go_wp2_with fail
  refine (alive_any _ W8.out).mono ?_
  rintro e0 w99 ⟨rfl, b99⟩
  have B99 := Lib.hid (B8.out.trans (b99.mono B8.out.size))
  clear b99
  go_wp2_with fail
  go_ret
  exact ⟨rfl, B99.out⟩

set_option maxRecDepth 100000 in
set_option maxHeartbeats 4000000 in
theorem roots_none_big_pos (p m n : Nat) (x : Nat) (w : World) (hw : Tab w) (h : Vf p m) (h1 : 1 ≤ n) (hn : ¬ n ≤ 3000) (hd : ¬ n ∣ fQ p m - 1) : Calls Tryd.prog 6 #[.agg #[.int .i64 p, .int .i64 m], .int .i64 n, .int .i64 x] w fun r w' => r = .returned (.bool true) ∧ Below w.heap.size w w' := by
  have W0 := Lib.hid (hw.below ((Below.refl _ w).alloc (Nat.le_refl _) (.cells #[.int .i64 p, .int .i64 m] 23)))
  have B0 := Lib.hid ((Below.refl _ w).alloc (Nat.le_refl _) (.cells #[.int .i64 p, .int .i64 m] 23))
  have K0 := Lib.hid (Blk.new w 23 #[.int .i64 p, .int .i64 m])
  have H := Lib.hid h
  have HD := Lib.hid hd
  have d2 : decide (3000 < (n : Int)) = true := decide_eq_true (by omega)
  obtain ⟨q, hQ⟩ : ∃ q, q = fQ p m := ⟨_, rfl⟩
  obtain ⟨T, hT⟩ : ∃ T, T = modK m := ⟨_, rfl⟩
  have HK := Lib.hid (show kitV p m = .agg #[.int .i64 p, .int .i64 m, .int .i64 q, .int .i64 T] by rw [hQ, hT]; rfl)
  have HQ := Lib.hid hQ
  have hq := h.q
  rw [← hQ] at hq
  rw [← hQ] at hd
  have hne : ((q : Int) - 1) % (n : Int) ≠ 0 := by
    rw [show ((q : Int) - 1) = ((q - 1 : Nat) : Int) by omega, ← Int.natCast_emod]
    intro e0
    exact hd (Nat.dvd_of_mod_eq_zero (by omega))
  have D0 : (((q : Int) - 1) % (n : Int) == 0) = false := by simpa using hne
  have D1 : (((q : Int) - 1) % (n : Int) != 0) = true := by simpa using hne
  have HNE := Lib.hid (show ((fQ p m : Int) - 1) % (n : Int) ≠ 0 by rw [← hQ]; exact hne)
  have d3 : decide ((x : Int) < 0) = false := decide_eq_false (by omega)
  clear h hQ hT hd hne
  go_enter Tryd.func6, Tryd.ntmps6
  go_wp2_with fail
  refine (refvalid_any p m _).mono ?_
  rintro e0 w1 ⟨rfl, b1⟩
  rw [H.out.valid]
  have W1 := Lib.hid (W0.out.below b1)
  have B1 := Lib.hid (B0.out.trans (b1.mono B0.out.size))
  have K1 := Lib.hid (K0.out.below b1)
  clear b1
  have c0 : w1.cell? ⟨w.heap.size, 0, none⟩ = some (.int .i64 p) := K1.out.cell 0
  have c1 : w1.cell? ⟨w.heap.size, 1, none⟩ = some (.int .i64 m) := K1.out.cell 1
  go_wp2_with fail
  refine (reford_yes p m _ H.out).mono ?_
  rintro e0 w2 ⟨rfl, b2⟩
  rw [← HQ.out]
  have W2 := Lib.hid (W1.out.below b2)
  have B2 := Lib.hid (B1.out.trans (b2.mono B1.out.size))
  have K2 := Lib.hid (K1.out.below b2)
  clear b2 c0 c1
  have c0 : w2.cell? ⟨w.heap.size, 0, none⟩ = some (.int .i64 p) := K2.out.cell 0
  have c1 : w2.cell? ⟨w.heap.size, 1, none⟩ = some (.int .i64 m) := K2.out.cell 1
  go_wp2_with fail
  refine (Root_none p m n _ W2.out H.out h1 HD.out).mono ?_
  rintro e0 w3 ⟨rfl, b3⟩
  have W3 := Lib.hid (W2.out.below b3)
  have B3 := Lib.hid (B2.out.trans (b3.mono B2.out.size))
  have K3 := Lib.hid (K2.out.below b3)
  clear b3 c0 c1
  have c0 : w3.cell? ⟨w.heap.size, 0, none⟩ = some (.int .i64 p) := K3.out.cell 0
  have c1 : w3.cell? ⟨w.heap.size, 1, none⟩ = some (.int .i64 m) := K3.out.cell 1
  go_wp2_with fail
  refine (Sum_none p m n x _ W3.out H.out h1 HD.out).mono ?_
  rintro e0 w4 ⟨rfl, b4⟩
  have W4 := Lib.hid (W3.out.below b4)
  have B4 := Lib.hid (B3.out.trans (b4.mono B3.out.size))
  have K4 := Lib.hid (K3.out.below b4)
  clear b4 c0 c1
  have c0 : w4.cell? ⟨w.heap.size, 0, none⟩ = some (.int .i64 p) := K4.out.cell 0
  have c1 : w4.cell? ⟨w.heap.size, 1, none⟩ = some (.int .i64 m) := K4.out.cell 1
  go_wp2_with fail
  refine (refvalid_any p m _).mono ?_
  rintro e0 w5 ⟨rfl, b5⟩
  rw [H.out.valid]
  have W5 := Lib.hid (W4.out.below b5)
  have B5 := Lib.hid (B4.out.trans (b5.mono B4.out.size))
  have K5 := Lib.hid (K4.out.below b5)
  clear b5 c0 c1
  have c0 : w5.cell? ⟨w.heap.size, 0, none⟩ = some (.int .i64 p) := K5.out.cell 0
  have c1 : w5.cell? ⟨w.heap.size, 1, none⟩ = some (.int .i64 m) := K5.out.cell 1
  go_wp2_with fail
  refine (of_any p m _ H.out).mono ?_
  rintro e0 w6 ⟨rfl, b6⟩
  rw [HK.out]
  have W6 := Lib.hid (W5.out.below b6)
  have B6 := Lib.hid (B5.out.trans (b6.mono B5.out.size))
  clear b6 c0 c1
  go_wp2_with fail
  obtain ⟨g, hg⟩ : ∃ g, g = w6.heap.size := ⟨_, rfl⟩
  have hG := Blk.new w6 34 #[.int .i64 p, .int .i64 m, .int .i64 q, .int .i64 T]
  rw [← hg] at hG
  have hB := B6.out.alloc B6.out.size (.cells #[.int .i64 p, .int .i64 m, .int .i64 q, .int .i64 T] 34)
  have hW := W6.out.below ((Below.refl _ w6).alloc (Nat.le_refl _) (.cells #[.int .i64 p, .int .i64 m, .int .i64 q, .int .i64 T] 34))
  try rw [← hg]
  clear hg
  change Calls _ _ _ (w6.alloc (.cells #[.int .i64 p, .int .i64 m, .int .i64 q, .int .i64 T] 34)) _
  obtain ⟨w7, hw7⟩ : ∃ w7, w7 = (w6.alloc (.cells #[.int .i64 p, .int .i64 m, .int .i64 q, .int .i64 T] 34)) := ⟨_, rfl⟩
  rw [← hw7] at hG hB hW ⊢
  have W7 := Lib.hid hW
  have B7 := Lib.hid hB
  have G7 := Lib.hid hG
  clear hw7 hG hB hW
  refine (show Calls _ _ #[.agg #[.int .i64 p, .int .i64 m, .int .i64 q, .int .i64 T], .int .i64 n] _ _ from HK.out ▸ kroot_none p m n _ H.out (.inr HNE.out)).mono ?_
  rintro e0 w8 ⟨rfl, b8⟩
  have W8 := Lib.hid (W7.out.below b8)
  have B8 := Lib.hid (B7.out.trans (b8.mono B7.out.size))
  have G8 := Lib.hid (G7.out.below b8)
  clear b8
  go_wp2_with fail
  refine (is_bad 6 0 _ rfl).mono ?_
  rintro e0 w' ⟨rfl, rfl⟩
  go_wp2_with fail
  refine (is_bad 6 0 _ rfl).mono ?_
  rintro e0 w' ⟨rfl, rfl⟩
  go_wp2_with fail
  refine (alive_any _ W8.out).mono ?_
  rintro e0 w99 ⟨rfl, b99⟩
  have B99 := Lib.hid (B8.out.trans (b99.mono B8.out.size))
  clear b99
  go_wp2_with fail
  go_ret
  exact ⟨rfl, B99.out⟩

set_option maxRecDepth 100000 in
set_option maxHeartbeats 4000000 in
theorem roots_yes_neg (p m n : Nat) (x : Int) (w : World) (hw : Tab w) (h : Vf p m) (h1 : 1 ≤ n) (hn : n ≤ 3000) (hd : n ∣ fQ p m - 1) (hx : x < 0) : Calls Tryd.prog 6 #[.agg #[.int .i64 p, .int .i64 m], .int .i64 n, .int .i64 x] w fun r w' => r = .returned (.bool true) ∧ Below w.heap.size w w' := by
  have W0 := Lib.hid (hw.below ((Below.refl _ w).alloc (Nat.le_refl _) (.cells #[.int .i64 p, .int .i64 m] 23)))
  have B0 := Lib.hid ((Below.refl _ w).alloc (Nat.le_refl _) (.cells #[.int .i64 p, .int .i64 m] 23))
  have K0 := Lib.hid (Blk.new w 23 #[.int .i64 p, .int .i64 m])
  have H := Lib.hid h
  have HD := Lib.hid hd
  have d2 : decide (3000 < (n : Int)) = false := decide_eq_false (by omega)
  obtain ⟨q, hQ⟩ : ∃ q, q = fQ p m := ⟨_, rfl⟩
  obtain ⟨T, hT⟩ : ∃ T, T = modK m := ⟨_, rfl⟩
  have HK := Lib.hid (show kitV p m = .agg #[.int .i64 p, .int .i64 m, .int .i64 q, .int .i64 T] by rw [hQ, hT]; rfl)
  have HQ := Lib.hid hQ
  have hq := h.q
  rw [← hQ] at hq
  rw [← hQ] at hd
  have D1 : (((q : Int) - 1) % (n : Int) != 0) = false := by
    rw [show ((q : Int) - 1) = ((q - 1 : Nat) : Int) by omega, ← Int.natCast_emod, Nat.mod_eq_zero_of_dvd hd]; rfl
  have d3 : decide (x < 0) = true := decide_eq_true hx
  clear h hQ hT hd
  go_enter Tryd.func6, Tryd.ntmps6
  go_wp2_with fail
  refine (Root_yes p m n _ W0.out H.out h1 HD.out).mono ?_
  rintro e0 w1 ⟨r, rfl, hr, b1⟩
  have HL := Lib.hid hr
  clear hr
  have W1 := Lib.hid (W0.out.below b1)
  have B1 := Lib.hid (B0.out.trans (b1.mono B0.out.size))
  have K1 := Lib.hid (K0.out.below b1)
  clear b1
  have c0 : w1.cell? ⟨w.heap.size, 0, none⟩ = some (.int .i64 p) := K1.out.cell 0
  have c1 : w1.cell? ⟨w.heap.size, 1, none⟩ = some (.int .i64 m) := K1.out.cell 1
  go_wp2_with fail
  refine (Sum_neg p m n x _ W1.out H.out hx).mono ?_
  rintro e0 w2 ⟨rfl, b2⟩
  have W2 := Lib.hid (W1.out.below b2)
  have B2 := Lib.hid (B1.out.trans (b2.mono B1.out.size))
  have K2 := Lib.hid (K1.out.below b2)
  clear b2 c0 c1
  have c0 : w2.cell? ⟨w.heap.size, 0, none⟩ = some (.int .i64 p) := K2.out.cell 0
  have c1 : w2.cell? ⟨w.heap.size, 1, none⟩ = some (.int .i64 m) := K2.out.cell 1
  go_wp2_with fail
  refine (refvalid_any p m _).mono ?_
  rintro e0 w3 ⟨rfl, b3⟩
  rw [H.out.valid]
  have W3 := Lib.hid (W2.out.below b3)
  have B3 := Lib.hid (B2.out.trans (b3.mono B2.out.size))
  have K3 := Lib.hid (K2.out.below b3)
  clear b3 c0 c1
  have c0 : w3.cell? ⟨w.heap.size, 0, none⟩ = some (.int .i64 p) := K3.out.cell 0
  have c1 : w3.cell? ⟨w.heap.size, 1, none⟩ = some (.int .i64 m) := K3.out.cell 1
  go_wp2_with fail
  refine (of_any p m _ H.out).mono ?_
  rintro e0 w4 ⟨rfl, b4⟩
  rw [HK.out]
  have W4 := Lib.hid (W3.out.below b4)
  have B4 := Lib.hid (B3.out.trans (b4.mono B3.out.size))
  clear b4 c0 c1
  go_wp2_with fail
  obtain ⟨g, hg⟩ : ∃ g, g = w4.heap.size := ⟨_, rfl⟩
  have hG := Blk.new w4 34 #[.int .i64 p, .int .i64 m, .int .i64 q, .int .i64 T]
  rw [← hg] at hG
  have hB := B4.out.alloc B4.out.size (.cells #[.int .i64 p, .int .i64 m, .int .i64 q, .int .i64 T] 34)
  have hW := W4.out.below ((Below.refl _ w4).alloc (Nat.le_refl _) (.cells #[.int .i64 p, .int .i64 m, .int .i64 q, .int .i64 T] 34))
  try rw [← hg]
  clear hg
  change Calls _ _ _ (w4.alloc (.cells #[.int .i64 p, .int .i64 m, .int .i64 q, .int .i64 T] 34)) _
  obtain ⟨w5, hw5⟩ : ∃ w5, w5 = (w4.alloc (.cells #[.int .i64 p, .int .i64 m, .int .i64 q, .int .i64 T] 34)) := ⟨_, rfl⟩
  rw [← hw5] at hG hB hW ⊢
  have W5 := Lib.hid hW
  have B5 := Lib.hid hB
  have G5 := Lib.hid hG
  clear hw5 hG hB hW
  refine (show Calls _ _ #[.agg #[.int .i64 p, .int .i64 m, .int .i64 q, .int .i64 T], .int .i64 n] _ _ from HK.out ▸ kroot_any p m n _ H.out h1 HD.out).mono ?_
  rintro e0 w6 ⟨r2, rfl, hr2, b6⟩
  obtain rfl : r2 = r := Fld.LR_uniq hr2 HL.out
  clear hr2
  have W6 := Lib.hid (W5.out.below b6)
  have B6 := Lib.hid (B5.out.trans (b6.mono B5.out.size))
  have G6 := Lib.hid (G5.out.below b6)
  clear b6
  go_wp2_with fail
  refine (is_ok _ _).mono ?_
  rintro e0 w' ⟨rfl, rfl⟩
  go_wp2_with fail
  refine (is_bad 2 0 _ rfl).mono ?_
  rintro e0 w' ⟨rfl, rfl⟩
  go_wp2_with fail
  refine (alive_any _ W6.out).mono ?_
  rintro e0 w99 ⟨rfl, b99⟩
  have B99 := Lib.hid (B6.out.trans (b99.mono B6.out.size))
  clear b99
  go_wp2_with fail
  go_ret
  exact ⟨rfl, B99.out⟩

set_option maxRecDepth 100000 in
set_option maxHeartbeats 4000000 in
theorem roots_yes_pos (p m n : Nat) (x : Nat) (w : World) (hw : Tab w) (h : Vf p m) (h1 : 1 ≤ n) (hn : n ≤ 3000) (hd : n ∣ fQ p m - 1) (hx : x ≤ 9223372036854775807) : Calls Tryd.prog 6 #[.agg #[.int .i64 p, .int .i64 m], .int .i64 n, .int .i64 x] w fun r w' => r = .returned (.bool true) ∧ Below w.heap.size w w' := by
  have W0 := Lib.hid (hw.below ((Below.refl _ w).alloc (Nat.le_refl _) (.cells #[.int .i64 p, .int .i64 m] 23)))
  have B0 := Lib.hid ((Below.refl _ w).alloc (Nat.le_refl _) (.cells #[.int .i64 p, .int .i64 m] 23))
  have K0 := Lib.hid (Blk.new w 23 #[.int .i64 p, .int .i64 m])
  have H := Lib.hid h
  have HD := Lib.hid hd
  have d2 : decide (3000 < (n : Int)) = false := decide_eq_false (by omega)
  obtain ⟨q, hQ⟩ : ∃ q, q = fQ p m := ⟨_, rfl⟩
  obtain ⟨T, hT⟩ : ∃ T, T = modK m := ⟨_, rfl⟩
  have HK := Lib.hid (show kitV p m = .agg #[.int .i64 p, .int .i64 m, .int .i64 q, .int .i64 T] by rw [hQ, hT]; rfl)
  have HQ := Lib.hid hQ
  have hq := h.q
  rw [← hQ] at hq
  rw [← hQ] at hd
  have D1 : (((q : Int) - 1) % (n : Int) != 0) = false := by
    rw [show ((q : Int) - 1) = ((q - 1 : Nat) : Int) by omega, ← Int.natCast_emod, Nat.mod_eq_zero_of_dvd hd]; rfl
  have d3 : decide ((x : Int) < 0) = false := decide_eq_false (by omega)
  obtain ⟨SS, hSS⟩ : ∃ SS, SS = sumF p n x := ⟨_, rfl⟩
  have ESS := Lib.hid hSS
  clear hSS
  clear h hQ hT hd
  go_enter Tryd.func6, Tryd.ntmps6
  go_wp2_with fail
  refine (Root_yes p m n _ W0.out H.out h1 HD.out).mono ?_
  rintro e0 w1 ⟨r, rfl, hr, b1⟩
  have HL := Lib.hid hr
  clear hr
  have W1 := Lib.hid (W0.out.below b1)
  have B1 := Lib.hid (B0.out.trans (b1.mono B0.out.size))
  have K1 := Lib.hid (K0.out.below b1)
  clear b1
  have c0 : w1.cell? ⟨w.heap.size, 0, none⟩ = some (.int .i64 p) := K1.out.cell 0
  have c1 : w1.cell? ⟨w.heap.size, 1, none⟩ = some (.int .i64 m) := K1.out.cell 1
  go_wp2_with fail
  refine (Sum_yes p m n x _ W1.out H.out h1 (by omega) hx HD.out).mono ?_
  rintro e0 w2 ⟨rfl, b2⟩
  rw [← ESS.out]
  have W2 := Lib.hid (W1.out.below b2)
  have B2 := Lib.hid (B1.out.trans (b2.mono B1.out.size))
  have K2 := Lib.hid (K1.out.below b2)
  clear b2 c0 c1
  have c0 : w2.cell? ⟨w.heap.size, 0, none⟩ = some (.int .i64 p) := K2.out.cell 0
  have c1 : w2.cell? ⟨w.heap.size, 1, none⟩ = some (.int .i64 m) := K2.out.cell 1
  go_wp2_with fail
  refine (refvalid_any p m _).mono ?_
  rintro e0 w3 ⟨rfl, b3⟩
  rw [H.out.valid]
  have W3 := Lib.hid (W2.out.below b3)
  have B3 := Lib.hid (B2.out.trans (b3.mono B2.out.size))
  have K3 := Lib.hid (K2.out.below b3)
  clear b3 c0 c1
  have c0 : w3.cell? ⟨w.heap.size, 0, none⟩ = some (.int .i64 p) := K3.out.cell 0
  have c1 : w3.cell? ⟨w.heap.size, 1, none⟩ = some (.int .i64 m) := K3.out.cell 1
  go_wp2_with fail
  refine (of_any p m _ H.out).mono ?_
  rintro e0 w4 ⟨rfl, b4⟩
  rw [HK.out]
  have W4 := Lib.hid (W3.out.below b4)
  have B4 := Lib.hid (B3.out.trans (b4.mono B3.out.size))
  clear b4 c0 c1
  go_wp2_with fail
  obtain ⟨g, hg⟩ : ∃ g, g = w4.heap.size := ⟨_, rfl⟩
  have hG := Blk.new w4 34 #[.int .i64 p, .int .i64 m, .int .i64 q, .int .i64 T]
  rw [← hg] at hG
  have hB := B4.out.alloc B4.out.size (.cells #[.int .i64 p, .int .i64 m, .int .i64 q, .int .i64 T] 34)
  have hW := W4.out.below ((Below.refl _ w4).alloc (Nat.le_refl _) (.cells #[.int .i64 p, .int .i64 m, .int .i64 q, .int .i64 T] 34))
  try rw [← hg]
  clear hg
  change Calls _ _ _ (w4.alloc (.cells #[.int .i64 p, .int .i64 m, .int .i64 q, .int .i64 T] 34)) _
  obtain ⟨w5, hw5⟩ : ∃ w5, w5 = (w4.alloc (.cells #[.int .i64 p, .int .i64 m, .int .i64 q, .int .i64 T] 34)) := ⟨_, rfl⟩
  rw [← hw5] at hG hB hW ⊢
  have W5 := Lib.hid hW
  have B5 := Lib.hid hB
  have G5 := Lib.hid hG
  clear hw5 hG hB hW
  refine (show Calls _ _ #[.agg #[.int .i64 p, .int .i64 m, .int .i64 q, .int .i64 T], .int .i64 n] _ _ from HK.out ▸ kroot_any p m n _ H.out h1 HD.out).mono ?_
  rintro e0 w6 ⟨r2, rfl, hr2, b6⟩
  obtain rfl : r2 = r := Fld.LR_uniq hr2 HL.out
  clear hr2
  have W6 := Lib.hid (W5.out.below b6)
  have B6 := Lib.hid (B5.out.trans (b6.mono B5.out.size))
  have G6 := Lib.hid (G5.out.below b6)
  clear b6
  have k0 := G6.out.cell 0
  have k1 := G6.out.cell 1
  have k2 := G6.out.cell 2
  have k3 := G6.out.cell 3
  simp at k0 k1 k2 k3
  go_wp2_with fail
  refine (is_ok _ _).mono ?_
  rintro e0 w' ⟨rfl, rfl⟩
  go_wp2_with fail
  refine (show Calls _ _ #[.agg #[.int .i64 p, .int .i64 m, .int .i64 q, .int .i64 T], .int .i64 n, .int .i64 x] _ _ from HK.out ▸ ksum_any p m n x _ H.out h1 HD.out hx).mono ?_
  rintro e0 w7 ⟨rfl, b7⟩
  rw [← ESS.out]
  have W7 := Lib.hid (W6.out.below b7)
  have B7 := Lib.hid (B6.out.trans (b7.mono B6.out.size))
  have G7 := Lib.hid (G6.out.below b7)
  clear b7 k0 k1 k2 k3
  go_wp2_with fail
  refine (is_ok _ _).mono ?_
  rintro e0 w' ⟨rfl, rfl⟩
  go_wp2_with fail
  refine (alive_any _ W7.out).mono ?_
  rintro e0 w99 ⟨rfl, b99⟩
  have B99 := Lib.hid (B7.out.trans (b99.mono B7.out.size))
  clear b99
  go_wp2_with fail
  go_ret
  exact ⟨rfl, B99.out⟩

theorem roots_law (P M n x : Int) (w : World) (hw : Tab w) (hx : x ≤ 9223372036854775807) : Calls Tryd.prog 6 #[.agg #[.int .i64 P, .int .i64 M], .int .i64 n, .int .i64 x] w fun r w' => r = .returned (.bool true) ∧ Below w.heap.size w w' := by
  cases h : validF P M with
  | false =>
    by_cases hn : n ≤ 3000
    · exact roots_form_small P M n x w hw h hn
    · exact roots_form_big P M n x w hw h hn
  | true =>
    obtain ⟨p, m, rfl, rfl, hv⟩ := Vf.of h
    by_cases h1 : n < 1
    · refine roots_arg p m n x w hw hv h1 ?_
      by_cases h0 : x < 0
      · exact fun w hw => Sum_neg p m n x w hw hv h0
      · obtain ⟨x, rfl⟩ := Int.eq_ofNat_of_zero_le (show 0 ≤ x by omega)
        exact fun w hw => Sum_arg p m x n w hw hv h1
    · obtain ⟨n, rfl⟩ := Int.eq_ofNat_of_zero_le (show 0 ≤ n by omega)
      by_cases hd : n ∣ fQ p m - 1
      · by_cases hn : n ≤ 3000
        · by_cases h0 : x < 0
          · exact roots_yes_neg p m n x w hw hv (by omega) hn hd h0
          · obtain ⟨x, rfl⟩ := Int.eq_ofNat_of_zero_le (show 0 ≤ x by omega)
            exact roots_yes_pos p m n x w hw hv (by omega) hn hd (by omega)
        · exact roots_alive p m n x w hw hv hn hd
      · by_cases h0 : x < 0
        · by_cases hn : n ≤ 3000
          · exact roots_none_small_neg p m n x w hw hv (by omega) hn hd h0
          · exact roots_none_big_neg p m n x w hw hv (by omega) hn hd h0
        · obtain ⟨x, rfl⟩ := Int.eq_ofNat_of_zero_le (show 0 ≤ x by omega)
          by_cases hn : n ≤ 3000
          · exact roots_none_small_pos p m n x w hw hv (by omega) hn hd
          · exact roots_none_big_pos p m n x w hw hv (by omega) hn hd
end Go.Proofs.YtmenkahkdcjkiaaDoor
