/- The walk of FieldSums. -/
import Derived.Test.YtmenkahkdcjkiaaDoorProg
import Derived.Test.YtmenkahkdcjkiaaDoorBase
import Derived.Test.YtmenkahkdcjkiaaDoorFops
import Derived.Test.YtmenkahkdcjkiaaDoorFinv
import Derived.Test.YtmenkahkdcjkiaaDoorRsum
import Derived.Test.YtmenkahkdcjkiaaDoorSumL
import Derived.Test.YtmenkahkdcjkiaaDoorAlive3
import Derived.Test.YtmenkahkdcjkiaaDoorElt
import Derived.Test.YtmenkahkdcjkiaaDoorFlaw4
import Derived.Deep.QuietTactic
import Derived.BigQuiet
import Derived.Lib.QuietBelow
namespace Go.Proofs.YtmenkahkdcjkiaaDoor
open Go.RowKit Go.Sort

/-- The flag says whether a power of r below j is x. -/
def fnd (p m r x j : Nat) (B : Bool) : Prop := B = true ↔ ∃ i, i < j ∧ x = pw (fmul p m) r i

def fin (B : Bool) (PW : Nat) : Prop := B = true ↔ PW = 1

theorem allEl1 {p m : Nat} {a : Int} : allEl p m [a] ↔ isEl p m a := by
  unfold allEl
  constructor
  · intro h; exact h 0 (by simp)
  · intro h0 i hi
    match i, hi with
    | 0, _ => exact h0

set_option maxRecDepth 100000 in
set_option maxHeartbeats 4000000 in
theorem sums_out (P M n e x : Int) (w : World) (hw : Tab w) (h : n < 1 ∨ 3000 < n ∨ e < 0) : Calls Tryd.prog 9 #[.agg #[.int .i64 P, .int .i64 M], .int .i64 n, .int .i64 e, .int .i64 x] w fun r w' => r = .returned (.bool true) ∧ Below w.heap.size w w' := by
  have B0 := Lib.hid ((Below.refl _ w).alloc (Nat.le_refl _) (.cells #[.int .i64 P, .int .i64 M] 23))
  have W0 := Lib.hid (hw.below B0.out)
  by_cases h1 : n < 1
  · clear h
    go_enter Tryd.func9, Tryd.ntmps9
    go_wp2_with fail
    refine (alive_any _ W0.out).mono ?_
    rintro r w1 ⟨rfl, b1⟩
    have B1 := Lib.hid (B0.out.trans (b1.mono B0.out.size))
    clear b1
    go_wp2_with fail
    go_ret
    exact ⟨rfl, B1.out⟩
  by_cases h2 : 3000 < n
  · clear h
    go_enter Tryd.func9, Tryd.ntmps9
    go_wp2_with fail
    refine (alive_any _ W0.out).mono ?_
    rintro r w1 ⟨rfl, b1⟩
    have B1 := Lib.hid (B0.out.trans (b1.mono B0.out.size))
    clear b1
    go_wp2_with fail
    go_ret
    exact ⟨rfl, B1.out⟩
  have h3 : e < 0 := by omega
  clear h
  go_enter Tryd.func9, Tryd.ntmps9
  go_wp2_with fail
  refine (alive_any _ W0.out).mono ?_
  rintro r w1 ⟨rfl, b1⟩
  have B1 := Lib.hid (B0.out.trans (b1.mono B0.out.size))
  clear b1
  go_wp2_with fail
  go_ret
  exact ⟨rfl, B1.out⟩

set_option maxRecDepth 100000 in
set_option maxHeartbeats 4000000 in
theorem sums_no (P M n e x : Int) (w : World) (hw : Tab w) (h1 : 1 ≤ n) (h2 : n ≤ 3000) (h3 : 0 ≤ e) (h : ∀ p m : Nat, P = p → M = m → Vf p m → ¬ isEl p m x) : Calls Tryd.prog 9 #[.agg #[.int .i64 P, .int .i64 M], .int .i64 n, .int .i64 e, .int .i64 x] w fun r w' => r = .returned (.bool true) ∧ Below w.heap.size w w' := by
  obtain ⟨w2, hw2⟩ : ∃ w2, w2 = (w.alloc (.cells #[.int .i64 P, .int .i64 M] 23)).alloc (.cells (ints [x]) 3) := ⟨_, rfl⟩
  have G2 := Lib.hid (show Blk w2 (w.heap.size + 1) 3 (ints [x]) by
    rw [hw2]
    have := Blk.new (w.alloc (.cells #[.int .i64 P, .int .i64 M] 23)) 3 (ints [x])
    rwa [World.size_alloc] at this)
  have K2 := Lib.hid (show Blk w2 w.heap.size 23 #[.int .i64 P, .int .i64 M] by rw [hw2]; exact (Blk.new _ _ _).alloc _)
  have B2 := Lib.hid (show Below w.heap.size w w2 by rw [hw2]; exact ((Below.refl _ w).alloc (Nat.le_refl _) _).alloc (by simp) _)
  have W2 := Lib.hid (hw.below B2.out)
  have HWW := Lib.hid hw2
  have HH := Lib.hid h
  have d1 : decide (n < 1) = false := by simp; omega
  have d2 : decide (3000 < n) = false := by simp; omega
  have d3 : decide (e < 0) = false := by simp; omega
  clear h hw2
  go_enter Tryd.func9, Tryd.ntmps9
  go_wp2_with fail
  change Calls _ _ _ ((w.alloc (.cells #[.int .i64 P, .int .i64 M] 23)).alloc (.cells (ints [x]) 3)) _
  rw [← HWW.out]
  refine (elt_no P M (w.heap.size + 1) 1 [x] _ W2.out G2.out (by simp) rfl (fun p m e1 e2 hv h3 => HH.out p m e1 e2 hv (allEl1.1 h3))).mono ?_
  rintro r w3 ⟨rfl, b3⟩
  have B3 := Lib.hid (B2.out.trans (b3.mono B2.out.size))
  have W3 := Lib.hid (W2.out.below b3)
  clear b3
  go_wp2_with fail
  refine (alive_any _ W3.out).mono ?_
  rintro r w4 ⟨rfl, b4⟩
  have B4 := Lib.hid (B3.out.trans (b4.mono B3.out.size))
  clear b4
  go_wp2_with fail
  go_ret
  exact ⟨rfl, B4.out⟩

set_option maxRecDepth 100000 in
set_option maxHeartbeats 4000000 in
theorem sums_zero (p m n e : Nat) (w : World) (hw : Tab w) (h : Vf p m) (h1 : 1 ≤ n) (h2 : n ≤ 3000) : Calls Tryd.prog 9 #[.agg #[.int .i64 p, .int .i64 m], .int .i64 n, .int .i64 e, .int .i64 0] w fun r w' => r = .returned (.bool true) ∧ Below w.heap.size w w' := by
  obtain ⟨w2, hw2⟩ : ∃ w2, w2 = (w.alloc (.cells #[.int .i64 p, .int .i64 m] 23)).alloc (.cells (ints [0]) 3) := ⟨_, rfl⟩
  have G2 := Lib.hid (show Blk w2 (w.heap.size + 1) 3 (ints [0]) by
    rw [hw2]
    have := Blk.new (w.alloc (.cells #[.int .i64 p, .int .i64 m] 23)) 3 (ints [0])
    rwa [World.size_alloc] at this)
  have K2 := Lib.hid (show Blk w2 w.heap.size 23 #[.int .i64 p, .int .i64 m] by rw [hw2]; exact (Blk.new _ _ _).alloc _)
  have B2 := Lib.hid (show Below w.heap.size w w2 by rw [hw2]; exact ((Below.refl _ w).alloc (Nat.le_refl _) _).alloc (by simp) _)
  have W2 := Lib.hid (hw.below B2.out)
  have HWW := Lib.hid hw2
  have hp2 : 2 ≤ p ∧ p ≤ 65536 := by rcases h with ⟨_, h1, h2, _⟩ | ⟨h, _⟩ <;> omega
  have d1 : decide ((n : Int) < 1) = false := by simp; omega
  have d2 : decide (3000 < (n : Int)) = false := by simp; omega
  have d3 : decide ((e : Int) < 0) = false := decide_eq_false (by omega)
  have H := Lib.hid h
  have HX := Lib.hid (show 0 < fQ p m by have := h.q; omega)
  clear h hw2
  go_enter Tryd.func9, Tryd.ntmps9
  go_wp2_with fail
  change Calls _ _ _ ((w.alloc (.cells #[.int .i64 p, .int .i64 m] 23)).alloc (.cells (ints [0]) 3)) _
  rw [← HWW.out]
  refine (elt_yes p m (w.heap.size + 1) 1 [0] _ W2.out H.out G2.out (by simp) rfl (allEl1.2 ⟨by omega, by have := HX.out; omega⟩)).mono ?_
  rintro r0 w3 ⟨rfl, b3⟩
  have B3 := Lib.hid (B2.out.trans (b3.mono B2.out.size))
  have W3 := Lib.hid (W2.out.below b3)
  have K3 := Lib.hid (K2.out.below b3)
  clear b3
  go_wp2_with fail
  refine (alive_any _ W3.out).mono ?_
  rintro r0 w90 ⟨rfl, b90⟩
  have B90 := Lib.hid (B3.out.trans (b90.mono B3.out.size))
  clear b90
  go_wp2_with fail
  go_ret
  exact ⟨rfl, B90.out⟩

set_option maxRecDepth 100000 in
set_option maxHeartbeats 4000000 in
theorem sums_none (p m n e x : Nat) (w : World) (hw : Tab w) (h : Vf p m) (h1 : 1 ≤ n) (h2 : n ≤ 3000) (h3 : e ≤ 9223372036854775807) (hx : x < fQ p m) (hx0 : 0 < x) (hd : ¬ n ∣ fQ p m - 1) : Calls Tryd.prog 9 #[.agg #[.int .i64 p, .int .i64 m], .int .i64 n, .int .i64 e, .int .i64 x] w fun r w' => r = .returned (.bool true) ∧ Below w.heap.size w w' := by
  obtain ⟨w2, hw2⟩ : ∃ w2, w2 = (w.alloc (.cells #[.int .i64 p, .int .i64 m] 23)).alloc (.cells (ints [(x : Int)]) 3) := ⟨_, rfl⟩
  have G2 := Lib.hid (show Blk w2 (w.heap.size + 1) 3 (ints [(x : Int)]) by
    rw [hw2]
    have := Blk.new (w.alloc (.cells #[.int .i64 p, .int .i64 m] 23)) 3 (ints [(x : Int)])
    rwa [World.size_alloc] at this)
  have K2 := Lib.hid (show Blk w2 w.heap.size 23 #[.int .i64 p, .int .i64 m] by rw [hw2]; exact (Blk.new _ _ _).alloc _)
  have B2 := Lib.hid (show Below w.heap.size w w2 by rw [hw2]; exact ((Below.refl _ w).alloc (Nat.le_refl _) _).alloc (by simp) _)
  have W2 := Lib.hid (hw.below B2.out)
  have HWW := Lib.hid hw2
  have hp2 : 2 ≤ p ∧ p ≤ 65536 := by rcases h with ⟨_, h1, h2, _⟩ | ⟨h, _⟩ <;> omega
  have d1 : decide ((n : Int) < 1) = false := by simp; omega
  have d2 : decide (3000 < (n : Int)) = false := by simp; omega
  have d3 : decide ((e : Int) < 0) = false := decide_eq_false (by omega)
  have dx : ((x : Int) == 0) = false := by simp; omega
  have hq := h.q
  obtain ⟨q, hQ⟩ : ∃ q, q = fQ p m := ⟨_, rfl⟩
  have DQ : (((q : Int) - 1) % (n : Int) != 0) = true := by
    have e1 : ((q : Int) - 1) % (n : Int) = (((q - 1) % n : Nat) : Int) := by rw [Int.natCast_emod]; congr 1; omega
    have e2 : (q - 1) % n ≠ 0 := fun e => hd (by rw [← hQ]; exact Nat.dvd_of_mod_eq_zero e)
    rw [e1]; simp; omega
  have HQ := Lib.hid hQ
  have hq2 : 2 ≤ q ∧ q ≤ 65536 := by rw [hQ]; exact hq
  have H := Lib.hid h
  have HX := Lib.hid hx
  have HD := Lib.hid hd
  clear h hw2 hx hd hQ hq hx0
  go_enter Tryd.func9, Tryd.ntmps9
  go_wp2_with fail
  change Calls _ _ _ ((w.alloc (.cells #[.int .i64 p, .int .i64 m] 23)).alloc (.cells (ints [(x : Int)]) 3)) _
  rw [← HWW.out]
  refine (elt_yes p m (w.heap.size + 1) 1 [(x : Int)] _ W2.out H.out G2.out (by simp) rfl (allEl1.2 ⟨by omega, by have := HX.out; omega⟩)).mono ?_
  rintro r0 w3 ⟨rfl, b3⟩
  have B3 := Lib.hid (B2.out.trans (b3.mono B2.out.size))
  have W3 := Lib.hid (W2.out.below b3)
  have K3 := Lib.hid (K2.out.below b3)
  clear b3
  have c0 : w3.cell? ⟨w.heap.size, 0, none⟩ = some (.int .i64 p) := K3.out.cell 0
  have c1 : w3.cell? ⟨w.heap.size, 1, none⟩ = some (.int .i64 m) := K3.out.cell 1
  go_wp2_with fail
  refine (Root_none p m n _ W3.out H.out h1 HD.out).mono ?_
  rintro r0 w4 ⟨rfl, b4⟩
  have B4 := Lib.hid (B3.out.trans (b4.mono B3.out.size))
  have W4 := Lib.hid (W3.out.below b4)
  have K4 := Lib.hid (K3.out.below b4)
  clear b4
  clear c0 c1
  have c0 : w4.cell? ⟨w.heap.size, 0, none⟩ = some (.int .i64 p) := K4.out.cell 0
  have c1 : w4.cell? ⟨w.heap.size, 1, none⟩ = some (.int .i64 m) := K4.out.cell 1
  go_wp2_with fail
  refine (Sum_none p m n e _ W4.out H.out h1 HD.out).mono ?_
  rintro r0 w5 ⟨rfl, b5⟩
  have B5 := Lib.hid (B4.out.trans (b5.mono B4.out.size))
  have W5 := Lib.hid (W4.out.below b5)
  have K5 := Lib.hid (K4.out.below b5)
  clear b5
  clear c0 c1
  have c0 : w5.cell? ⟨w.heap.size, 0, none⟩ = some (.int .i64 p) := K5.out.cell 0
  have c1 : w5.cell? ⟨w.heap.size, 1, none⟩ = some (.int .i64 m) := K5.out.cell 1
  go_wp2_with fail
  refine (Order_yes p m _ W5.out H.out).mono ?_
  rintro r0 w6 ⟨rfl, b6⟩
  have B6 := Lib.hid (B5.out.trans (b6.mono B5.out.size))
  have W6 := Lib.hid (W5.out.below b6)
  have K6 := Lib.hid (K5.out.below b6)
  clear b6
  rw [← HQ.out]
  clear c0 c1
  go_wp2_with fail
  refine (alive_any _ W6.out).mono ?_
  rintro r0 w90 ⟨rfl, b90⟩
  have B90 := Lib.hid (B6.out.trans (b90.mono B6.out.size))
  clear b90
  go_wp2_with fail
  go_ret
  exact ⟨rfl, B90.out⟩

set_option maxRecDepth 100000 in
set_option maxHeartbeats 8000000 in
theorem sums_main (p m n e x : Nat) (w : World) (hw : Tab w) (h : Vf p m) (h1 : 1 ≤ n) (h2 : n ≤ 3000) (h3 : e ≤ 9223372036854775807) (hx : x < fQ p m) (hx0 : 0 < x) (hd : n ∣ fQ p m - 1) : Calls Tryd.prog 9 #[.agg #[.int .i64 p, .int .i64 m], .int .i64 n, .int .i64 e, .int .i64 x] w fun r w' => r = .returned (.bool true) ∧ Below w.heap.size w w' := by
  obtain ⟨w2, hw2⟩ : ∃ w2, w2 = (w.alloc (.cells #[.int .i64 p, .int .i64 m] 23)).alloc (.cells (ints [(x : Int)]) 3) := ⟨_, rfl⟩
  have G2 := Lib.hid (show Blk w2 (w.heap.size + 1) 3 (ints [(x : Int)]) by
    rw [hw2]
    have := Blk.new (w.alloc (.cells #[.int .i64 p, .int .i64 m] 23)) 3 (ints [(x : Int)])
    rwa [World.size_alloc] at this)
  have K2 := Lib.hid (show Blk w2 w.heap.size 23 #[.int .i64 p, .int .i64 m] by rw [hw2]; exact (Blk.new _ _ _).alloc _)
  have B2 := Lib.hid (show Below w.heap.size w w2 by rw [hw2]; exact ((Below.refl _ w).alloc (Nat.le_refl _) _).alloc (by simp) _)
  have W2 := Lib.hid (hw.below B2.out)
  have HWW := Lib.hid hw2
  have hp2 : 2 ≤ p ∧ p ≤ 65536 := by rcases h with ⟨_, h1, h2, _⟩ | ⟨h, _⟩ <;> omega
  have d1 : decide ((n : Int) < 1) = false := by simp; omega
  have d2 : decide (3000 < (n : Int)) = false := by simp; omega
  have d3 : decide ((e : Int) < 0) = false := decide_eq_false (by omega)
  have dx : ((x : Int) == 0) = false := by simp; omega
  have H := Lib.hid h
  have HX := Lib.hid hx
  have HD := Lib.hid hd
  obtain ⟨PW, hPW⟩ : ∃ PW, PW = pw (fmul p m) x n := ⟨_, rfl⟩
  have EPW := Lib.hid hPW
  obtain ⟨SS, hSS⟩ : ∃ SS, SS = sumF p n e := ⟨_, rfl⟩
  have ESS := Lib.hid hSS
  have L1 := Lib.hid (show 1 < fQ p m by have := h.q; omega)
  clear h hw2 hx hd hx0 hPW hSS
  go_enter Tryd.func9, Tryd.ntmps9
  go_wp2_with fail
  change Calls _ _ _ ((w.alloc (.cells #[.int .i64 p, .int .i64 m] 23)).alloc (.cells (ints [(x : Int)]) 3)) _
  rw [← HWW.out]
  refine (elt_yes p m (w.heap.size + 1) 1 [(x : Int)] _ W2.out H.out G2.out (by simp) rfl (allEl1.2 ⟨by omega, by have := HX.out; omega⟩)).mono ?_
  rintro r0 w3 ⟨rfl, b3⟩
  have B3 := Lib.hid (B2.out.trans (b3.mono B2.out.size))
  have W3 := Lib.hid (W2.out.below b3)
  have K3 := Lib.hid (K2.out.below b3)
  clear b3
  have c0 : w3.cell? ⟨w.heap.size, 0, none⟩ = some (.int .i64 p) := K3.out.cell 0
  have c1 : w3.cell? ⟨w.heap.size, 1, none⟩ = some (.int .i64 m) := K3.out.cell 1
  go_wp2_with fail
  refine (Root_yes p m n _ W3.out H.out h1 HD.out).mono ?_
  rintro r0 w4 ⟨r, rfl, hr, b4⟩
  have B4 := Lib.hid (B3.out.trans (b4.mono B3.out.size))
  have W4 := Lib.hid (W3.out.below b4)
  have K4 := Lib.hid (K3.out.below b4)
  have HR := Lib.hid hr.1
  have HO := Lib.hid hr.2.1
  clear b4 hr c0 c1
  have c0 : w4.cell? ⟨w.heap.size, 0, none⟩ = some (.int .i64 p) := K4.out.cell 0
  have c1 : w4.cell? ⟨w.heap.size, 1, none⟩ = some (.int .i64 m) := K4.out.cell 1
  go_wp2_with fail
  refine (Sum_yes p m n e _ W4.out H.out h1 (by omega) (by omega) HD.out).mono ?_
  rintro r0 w5 ⟨rfl, b5⟩
  have B5 := Lib.hid (B4.out.trans (b5.mono B4.out.size))
  have W5 := Lib.hid (W4.out.below b5)
  have K5 := Lib.hid (K4.out.below b5)
  clear b5
  rw [← ESS.out]
  clear c0 c1
  have c0 : w5.cell? ⟨w.heap.size, 0, none⟩ = some (.int .i64 p) := K5.out.cell 0
  have c1 : w5.cell? ⟨w.heap.size, 1, none⟩ = some (.int .i64 m) := K5.out.cell 1
  go_wp2_with fail
  refine (Power_yes p m x n _ W5.out H.out HX.out (by omega)).mono ?_
  rintro r0 w6 ⟨rfl, b6⟩
  have B6 := Lib.hid (B5.out.trans (b6.mono B5.out.size))
  have W6 := Lib.hid (W5.out.below b6)
  have K6 := Lib.hid (K5.out.below b6)
  clear b6
  rw [← EPW.out]
  clear c0 c1
  go_wp2_with fail
  go_loopw [15, 16, 17, 18] (fun fv yv ov jv wr => ∃ (j Y O : Nat) (BB : Bool), jv = .int .i64 j ∧ fv = .bool BB ∧ yv = .int .i64 Y ∧ ov = .int .i64 O ∧ j ≤ n ∧ Hid (Y = pw (fmul p m) r j) ∧ Hid (O = onesF p m j) ∧ Hid (fnd p m r x j BB) ∧ Hid (Below w.heap.size w wr) ∧ Hid (Tab wr) ∧ Hid (Blk wr w.heap.size 23 #[.int .i64 p, .int .i64 m])) (fun _ _ _ jv _ => n - (intOf jv).toNat)
  case atStart => exact ⟨0, 1, 0, false, rfl, rfl, rfl, rfl, Nat.zero_le _, Lib.hid rfl, Lib.hid rfl, Lib.hid (show fnd p m r x 0 false from ⟨fun e => (by cases e), fun ⟨i, hi, _⟩ => absurd hi (Nat.not_lt_zero i)⟩), B6, W6, K6⟩
  case round =>
    obtain ⟨j, Y, O, BB, rfl, rfl, rfl, rfl, hj, HY, HOO, HBB, BR, WR, KR⟩ := hrel
    have c0 : wr.cell? ⟨w.heap.size, 0, none⟩ = some (.int .i64 p) := KR.out.cell 0
    have c1 : wr.cell? ⟨w.heap.size, 1, none⟩ = some (.int .i64 m) := KR.out.cell 1
    by_cases hlt : j < n
    · have LY := Lib.hid (show Y < fQ p m by rw [HY.out]; exact H.out.fld.pw_lt HR.out j)
      have LO := Lib.hid (show O < fQ p m by rw [HOO.out]; exact onesF_lt H.out j)
      have HNE := Lib.hid (show 0 < j → Y ≠ 1 from fun hj0 e => by
        rw [HY.out] at e
        have := Nat.le_of_dvd hj0 ((HO.out j).1 e)
        omega)
      obtain ⟨Y2, hY2⟩ : ∃ Y2, Y2 = fmul p m Y r := ⟨_, rfl⟩
      obtain ⟨O2, hO2⟩ : ∃ O2, O2 = fadd p m O 1 := ⟨_, rfl⟩
      have EY2 := Lib.hid hY2.symm
      have EO2 := Lib.hid hO2.symm
      have HY2 := Lib.hid (show Y2 = pw (fmul p m) r (j + 1) by rw [hY2, HY.out]; rfl)
      have HO2 := Lib.hid (show O2 = onesF p m (j + 1) by rw [hO2, HOO.out]; rfl)
      clear hY2 hO2
      by_cases hj0 : j = 0
      · have g0 : decide (0 < (j : Int)) = false := by simp; omega
        have g0' : decide (0 < j) = false := decide_eq_false (by omega)
        clear hj0
        cases BB with
        | true =>
          have HBN := Lib.hid (show fnd p m r x (j + 1) true from ⟨fun _ => by obtain ⟨i, hi, e⟩ := HBB.out.1 rfl; exact ⟨i, by omega, e⟩, fun _ => rfl⟩)
          have r0 := cell_regrown c0
          have r1 := cell_regrown c1
          have cM : ∀ d os, Calls Tryd.prog 36 #[.agg #[.int .i64 p, .int .i64 m], .int .i64 Y, .int .i64 r] (grow (redrawn wr d) os) fun e w'' => e = .returned (.int .i64 Y2) ∧ ∃ p : Regrown, w'' = grow (redrawn wr p.d) p.os := fun d os => Calls.regrown_of (by have h0 := lmul_any p m Y r _ (WR.out.below (below_regrown wr d os)) H.out LY.out HR.out; rw [EY2.out] at h0; exact h0)
          have cA : ∀ d os, Calls Tryd.prog 35 #[.agg #[.int .i64 p, .int .i64 m], .int .i64 O, .int .i64 1] (grow (redrawn wr d) os) fun e w'' => e = .returned (.int .i64 O2) ∧ ∃ p : Regrown, w'' = grow (redrawn wr p.d) p.os := fun d os => Calls.regrown_of (by have h0 := ladd_any p m O 1 _ (WR.out.below (below_regrown wr d os)) H.out LO.out L1.out; rw [EO2.out] at h0; exact h0)
          go_wp2_with fail
          refine wp_region_quiet_below (by kernel_rfl) (by kernel_rfl) ?_
          repeat (go_big_quiet_step (with_reducible first | exact cM _ _ | exact cA _ _))
          refine wpQuiet_nil ?_
          intro _ hw'
          obtain ⟨⟨dq, osq⟩, hw''⟩ := hw'
          subst hw''
          have hbb := below_regrown wr dq osq
          have B9 := Lib.hid (BR.out.trans (hbb.mono BR.out.size))
          have W9 := Lib.hid (WR.out.below hbb)
          have K9 := Lib.hid (KR.out.below hbb)
          clear r0 r1 cM cA hbb
          generalize grow (redrawn wr dq) osq = w9 at *
          go_wp2_with fail
          go_roundw
          case rel => exact ⟨j + 1, Y2, O2, true, by go_num, rfl, rfl, rfl, by omega, HY2, HO2, HBN, B9, W9, K9⟩
          case measure => simp [intOf]; omega
        | false =>
          by_cases hyx : Y = x
          · have gx : ((Y : Int) == (x : Int)) = true := by simp; omega
            have HBN := Lib.hid (show fnd p m r x (j + 1) true from ⟨fun _ => ⟨j, by omega, by rw [← hyx]; exact HY.out⟩, fun _ => rfl⟩)
            clear hyx
            have r0 := cell_regrown c0
            have r1 := cell_regrown c1
            have cM : ∀ d os, Calls Tryd.prog 36 #[.agg #[.int .i64 p, .int .i64 m], .int .i64 Y, .int .i64 r] (grow (redrawn wr d) os) fun e w'' => e = .returned (.int .i64 Y2) ∧ ∃ p : Regrown, w'' = grow (redrawn wr p.d) p.os := fun d os => Calls.regrown_of (by have h0 := lmul_any p m Y r _ (WR.out.below (below_regrown wr d os)) H.out LY.out HR.out; rw [EY2.out] at h0; exact h0)
            have cA : ∀ d os, Calls Tryd.prog 35 #[.agg #[.int .i64 p, .int .i64 m], .int .i64 O, .int .i64 1] (grow (redrawn wr d) os) fun e w'' => e = .returned (.int .i64 O2) ∧ ∃ p : Regrown, w'' = grow (redrawn wr p.d) p.os := fun d os => Calls.regrown_of (by have h0 := ladd_any p m O 1 _ (WR.out.below (below_regrown wr d os)) H.out LO.out L1.out; rw [EO2.out] at h0; exact h0)
            go_wp2_with fail
            refine wp_region_quiet_below (by kernel_rfl) (by kernel_rfl) ?_
            repeat (go_big_quiet_step (with_reducible first | exact cM _ _ | exact cA _ _))
            refine wpQuiet_nil ?_
            intro _ hw'
            obtain ⟨⟨dq, osq⟩, hw''⟩ := hw'
            subst hw''
            have hbb := below_regrown wr dq osq
            have B9 := Lib.hid (BR.out.trans (hbb.mono BR.out.size))
            have W9 := Lib.hid (WR.out.below hbb)
            have K9 := Lib.hid (KR.out.below hbb)
            clear r0 r1 cM cA hbb
            generalize grow (redrawn wr dq) osq = w9 at *
            go_wp2_with fail
            go_roundw
            case rel => exact ⟨j + 1, Y2, O2, true, by go_num, rfl, rfl, rfl, by omega, HY2, HO2, HBN, B9, W9, K9⟩
            case measure => simp [intOf]; omega
          · have gx : ((Y : Int) == (x : Int)) = false := by simp; omega
            have HBN := Lib.hid (show fnd p m r x (j + 1) false from ⟨fun e => (by cases e), fun ⟨i, hi, e⟩ => by
              by_cases hij : i = j
              · subst hij; exact absurd (HY.out.trans e.symm) hyx
              · exact HBB.out.2 ⟨i, by omega, e⟩⟩)
            clear hyx
            have r0 := cell_regrown c0
            have r1 := cell_regrown c1
            have cM : ∀ d os, Calls Tryd.prog 36 #[.agg #[.int .i64 p, .int .i64 m], .int .i64 Y, .int .i64 r] (grow (redrawn wr d) os) fun e w'' => e = .returned (.int .i64 Y2) ∧ ∃ p : Regrown, w'' = grow (redrawn wr p.d) p.os := fun d os => Calls.regrown_of (by have h0 := lmul_any p m Y r _ (WR.out.below (below_regrown wr d os)) H.out LY.out HR.out; rw [EY2.out] at h0; exact h0)
            have cA : ∀ d os, Calls Tryd.prog 35 #[.agg #[.int .i64 p, .int .i64 m], .int .i64 O, .int .i64 1] (grow (redrawn wr d) os) fun e w'' => e = .returned (.int .i64 O2) ∧ ∃ p : Regrown, w'' = grow (redrawn wr p.d) p.os := fun d os => Calls.regrown_of (by have h0 := ladd_any p m O 1 _ (WR.out.below (below_regrown wr d os)) H.out LO.out L1.out; rw [EO2.out] at h0; exact h0)
            go_wp2_with fail
            refine wp_region_quiet_below (by kernel_rfl) (by kernel_rfl) ?_
            repeat (go_big_quiet_step (with_reducible first | exact cM _ _ | exact cA _ _))
            refine wpQuiet_nil ?_
            intro _ hw'
            obtain ⟨⟨dq, osq⟩, hw''⟩ := hw'
            subst hw''
            have hbb := below_regrown wr dq osq
            have B9 := Lib.hid (BR.out.trans (hbb.mono BR.out.size))
            have W9 := Lib.hid (WR.out.below hbb)
            have K9 := Lib.hid (KR.out.below hbb)
            clear r0 r1 cM cA hbb
            generalize grow (redrawn wr dq) osq = w9 at *
            go_wp2_with fail
            go_roundw
            case rel => exact ⟨j + 1, Y2, O2, false, by go_num, rfl, rfl, rfl, by omega, HY2, HO2, HBN, B9, W9, K9⟩
            case measure => simp [intOf]; omega
      · have g0 : decide (0 < (j : Int)) = true := by simp; omega
        have g0' : decide (0 < j) = true := decide_eq_true (by omega)
        have gy : ((Y : Int) == 1) = false := by
          have : Y ≠ 1 := fun e => HNE.out (by omega) e
          simp; omega
        clear hj0
        cases BB with
        | true =>
          have HBN := Lib.hid (show fnd p m r x (j + 1) true from ⟨fun _ => by obtain ⟨i, hi, e⟩ := HBB.out.1 rfl; exact ⟨i, by omega, e⟩, fun _ => rfl⟩)
          have r0 := cell_regrown c0
          have r1 := cell_regrown c1
          have cM : ∀ d os, Calls Tryd.prog 36 #[.agg #[.int .i64 p, .int .i64 m], .int .i64 Y, .int .i64 r] (grow (redrawn wr d) os) fun e w'' => e = .returned (.int .i64 Y2) ∧ ∃ p : Regrown, w'' = grow (redrawn wr p.d) p.os := fun d os => Calls.regrown_of (by have h0 := lmul_any p m Y r _ (WR.out.below (below_regrown wr d os)) H.out LY.out HR.out; rw [EY2.out] at h0; exact h0)
          have cA : ∀ d os, Calls Tryd.prog 35 #[.agg #[.int .i64 p, .int .i64 m], .int .i64 O, .int .i64 1] (grow (redrawn wr d) os) fun e w'' => e = .returned (.int .i64 O2) ∧ ∃ p : Regrown, w'' = grow (redrawn wr p.d) p.os := fun d os => Calls.regrown_of (by have h0 := ladd_any p m O 1 _ (WR.out.below (below_regrown wr d os)) H.out LO.out L1.out; rw [EO2.out] at h0; exact h0)
          go_wp2_with fail
          refine wp_region_quiet_below (by kernel_rfl) (by kernel_rfl) ?_
          repeat (go_big_quiet_step (with_reducible first | exact cM _ _ | exact cA _ _))
          refine wpQuiet_nil ?_
          intro _ hw'
          obtain ⟨⟨dq, osq⟩, hw''⟩ := hw'
          subst hw''
          have hbb := below_regrown wr dq osq
          have B9 := Lib.hid (BR.out.trans (hbb.mono BR.out.size))
          have W9 := Lib.hid (WR.out.below hbb)
          have K9 := Lib.hid (KR.out.below hbb)
          clear r0 r1 cM cA hbb
          generalize grow (redrawn wr dq) osq = w9 at *
          go_wp2_with fail
          go_roundw
          case rel => exact ⟨j + 1, Y2, O2, true, by go_num, rfl, rfl, rfl, by omega, HY2, HO2, HBN, B9, W9, K9⟩
          case measure => simp [intOf]; omega
        | false =>
          by_cases hyx : Y = x
          · have gx : ((Y : Int) == (x : Int)) = true := by simp; omega
            have HBN := Lib.hid (show fnd p m r x (j + 1) true from ⟨fun _ => ⟨j, by omega, by rw [← hyx]; exact HY.out⟩, fun _ => rfl⟩)
            clear hyx
            have r0 := cell_regrown c0
            have r1 := cell_regrown c1
            have cM : ∀ d os, Calls Tryd.prog 36 #[.agg #[.int .i64 p, .int .i64 m], .int .i64 Y, .int .i64 r] (grow (redrawn wr d) os) fun e w'' => e = .returned (.int .i64 Y2) ∧ ∃ p : Regrown, w'' = grow (redrawn wr p.d) p.os := fun d os => Calls.regrown_of (by have h0 := lmul_any p m Y r _ (WR.out.below (below_regrown wr d os)) H.out LY.out HR.out; rw [EY2.out] at h0; exact h0)
            have cA : ∀ d os, Calls Tryd.prog 35 #[.agg #[.int .i64 p, .int .i64 m], .int .i64 O, .int .i64 1] (grow (redrawn wr d) os) fun e w'' => e = .returned (.int .i64 O2) ∧ ∃ p : Regrown, w'' = grow (redrawn wr p.d) p.os := fun d os => Calls.regrown_of (by have h0 := ladd_any p m O 1 _ (WR.out.below (below_regrown wr d os)) H.out LO.out L1.out; rw [EO2.out] at h0; exact h0)
            go_wp2_with fail
            refine wp_region_quiet_below (by kernel_rfl) (by kernel_rfl) ?_
            repeat (go_big_quiet_step (with_reducible first | exact cM _ _ | exact cA _ _))
            refine wpQuiet_nil ?_
            intro _ hw'
            obtain ⟨⟨dq, osq⟩, hw''⟩ := hw'
            subst hw''
            have hbb := below_regrown wr dq osq
            have B9 := Lib.hid (BR.out.trans (hbb.mono BR.out.size))
            have W9 := Lib.hid (WR.out.below hbb)
            have K9 := Lib.hid (KR.out.below hbb)
            clear r0 r1 cM cA hbb
            generalize grow (redrawn wr dq) osq = w9 at *
            go_wp2_with fail
            go_roundw
            case rel => exact ⟨j + 1, Y2, O2, true, by go_num, rfl, rfl, rfl, by omega, HY2, HO2, HBN, B9, W9, K9⟩
            case measure => simp [intOf]; omega
          · have gx : ((Y : Int) == (x : Int)) = false := by simp; omega
            have HBN := Lib.hid (show fnd p m r x (j + 1) false from ⟨fun e => (by cases e), fun ⟨i, hi, e⟩ => by
              by_cases hij : i = j
              · subst hij; exact absurd (HY.out.trans e.symm) hyx
              · exact HBB.out.2 ⟨i, by omega, e⟩⟩)
            clear hyx
            have r0 := cell_regrown c0
            have r1 := cell_regrown c1
            have cM : ∀ d os, Calls Tryd.prog 36 #[.agg #[.int .i64 p, .int .i64 m], .int .i64 Y, .int .i64 r] (grow (redrawn wr d) os) fun e w'' => e = .returned (.int .i64 Y2) ∧ ∃ p : Regrown, w'' = grow (redrawn wr p.d) p.os := fun d os => Calls.regrown_of (by have h0 := lmul_any p m Y r _ (WR.out.below (below_regrown wr d os)) H.out LY.out HR.out; rw [EY2.out] at h0; exact h0)
            have cA : ∀ d os, Calls Tryd.prog 35 #[.agg #[.int .i64 p, .int .i64 m], .int .i64 O, .int .i64 1] (grow (redrawn wr d) os) fun e w'' => e = .returned (.int .i64 O2) ∧ ∃ p : Regrown, w'' = grow (redrawn wr p.d) p.os := fun d os => Calls.regrown_of (by have h0 := ladd_any p m O 1 _ (WR.out.below (below_regrown wr d os)) H.out LO.out L1.out; rw [EO2.out] at h0; exact h0)
            go_wp2_with fail
            refine wp_region_quiet_below (by kernel_rfl) (by kernel_rfl) ?_
            repeat (go_big_quiet_step (with_reducible first | exact cM _ _ | exact cA _ _))
            refine wpQuiet_nil ?_
            intro _ hw'
            obtain ⟨⟨dq, osq⟩, hw''⟩ := hw'
            subst hw''
            have hbb := below_regrown wr dq osq
            have B9 := Lib.hid (BR.out.trans (hbb.mono BR.out.size))
            have W9 := Lib.hid (WR.out.below hbb)
            have K9 := Lib.hid (KR.out.below hbb)
            clear r0 r1 cM cA hbb
            generalize grow (redrawn wr dq) osq = w9 at *
            go_wp2_with fail
            go_roundw
            case rel => exact ⟨j + 1, Y2, O2, false, by go_num, rfl, rfl, rfl, by omega, HY2, HO2, HBN, B9, W9, K9⟩
            case measure => simp [intOf]; omega
    · have hjn : j = n := by omega
      have HY1 : Y = 1 := by rw [HY.out, hjn]; exact (HO.out n).2 (Nat.dvd_refl n)
      have HFIN := Lib.hid (show fin BB PW from by
        have hb := HBB.out
        unfold fnd at hb
        unfold fin
        rw [hb, EPW.out, hjn]
        exact ⟨fun ⟨i, _, e⟩ => by rw [e, ← H.out.fld.pw_mul HR.out]; exact (HO.out _).2 (Nat.dvd_mul_left n i), fun e => H.out.fld.unity_pw HR.out h1 HO.out HX.out e⟩)
      have HSO := Lib.hid (show SS = if e % n = 0 then O else 0 by rw [ESS.out, HOO.out, hjn, onesF_eq H.out]; rfl)
      subst HY1
      clear hjn
      by_cases hen : e % n = 0
      · have DE : ((e : Int) % (n : Int) != 0) = false := by rw [← Int.natCast_emod, hen]; rfl
        obtain rfl : SS = O := by rw [HSO.out, if_pos hen]
        clear hen
        by_cases hp1 : PW = 1
        · obtain rfl : BB = true := HFIN.out.2 hp1
          have gp : ((PW : Int) == 1) = true := by simp; omega
          clear hp1
          go_wp2_with fail
          refine (alive_any _ WR.out).mono ?_
          rintro r0 w90 ⟨rfl, b90⟩
          have B90 := Lib.hid (BR.out.trans (b90.mono BR.out.size))
          clear b90
          go_wp2_with fail
          go_ret
          exact ⟨rfl, B90.out⟩
        · have hbf : BB = false := by
            cases hb : BB with
            | false => rfl
            | true => exact absurd (HFIN.out.1 hb) hp1
          subst hbf
          have gp : ((PW : Int) == 1) = false := by simp; omega
          clear hp1
          go_wp2_with fail
          refine (alive_any _ WR.out).mono ?_
          rintro r0 w90 ⟨rfl, b90⟩
          have B90 := Lib.hid (BR.out.trans (b90.mono BR.out.size))
          clear b90
          go_wp2_with fail
          go_ret
          exact ⟨rfl, B90.out⟩
      · have DE : ((e : Int) % (n : Int) != 0) = true := by rw [← Int.natCast_emod]; simp; omega
        obtain rfl : SS = 0 := by rw [HSO.out, if_neg hen]
        clear hen
        by_cases hp1 : PW = 1
        · obtain rfl : BB = true := HFIN.out.2 hp1
          have gp : ((PW : Int) == 1) = true := by simp; omega
          clear hp1
          go_wp2_with fail
          refine (alive_any _ WR.out).mono ?_
          rintro r0 w90 ⟨rfl, b90⟩
          have B90 := Lib.hid (BR.out.trans (b90.mono BR.out.size))
          clear b90
          go_wp2_with fail
          go_ret
          exact ⟨rfl, B90.out⟩
        · have hbf : BB = false := by
            cases hb : BB with
            | false => rfl
            | true => exact absurd (HFIN.out.1 hb) hp1
          subst hbf
          have gp : ((PW : Int) == 1) = false := by simp; omega
          clear hp1
          go_wp2_with fail
          refine (alive_any _ WR.out).mono ?_
          rintro r0 w90 ⟨rfl, b90⟩
          have B90 := Lib.hid (BR.out.trans (b90.mono BR.out.size))
          clear b90
          go_wp2_with fail
          go_ret
          exact ⟨rfl, B90.out⟩

theorem sums_law (P M n e x : Int) (w : World) (hw : Tab w) (he : e ≤ 9223372036854775807) : Calls Tryd.prog 9 #[.agg #[.int .i64 P, .int .i64 M], .int .i64 n, .int .i64 e, .int .i64 x] w fun r w' => r = .returned (.bool true) ∧ Below w.heap.size w w' := by
  by_cases hout : n < 1 ∨ 3000 < n ∨ e < 0
  · exact sums_out P M n e x w hw hout
  · obtain ⟨n, rfl⟩ := Int.eq_ofNat_of_zero_le (show 0 ≤ n by omega)
    obtain ⟨e, rfl⟩ := Int.eq_ofNat_of_zero_le (show 0 ≤ e by omega)
    by_cases h : ∃ p m : Nat, P = p ∧ M = m ∧ Vf p m ∧ isEl p m x
    · obtain ⟨p, m, rfl, rfl, hv, hx0, hx⟩ := h
      obtain ⟨x, rfl⟩ := Int.eq_ofNat_of_zero_le hx0
      by_cases hx0 : x = 0
      · subst hx0
        exact sums_zero p m n e w hw hv (by omega) (by omega)
      · by_cases hd : n ∣ fQ p m - 1
        · exact sums_main p m n e x w hw hv (by omega) (by omega) (by omega) (by omega) (by omega) hd
        · exact sums_none p m n e x w hw hv (by omega) (by omega) (by omega) (by omega) (by omega) hd
    · exact sums_no P M n e x w hw (by omega) (by omega) (by omega) fun p m e1 e2 hv h3 => h ⟨p, m, e1, e2, hv, h3⟩
end Go.Proofs.YtmenkahkdcjkiaaDoor
