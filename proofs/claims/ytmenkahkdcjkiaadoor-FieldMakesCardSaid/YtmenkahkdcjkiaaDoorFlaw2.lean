/- The walk of FieldMakes. -/
import Derived.Test.YtmenkahkdcjkiaaDoorProg
import Derived.Test.YtmenkahkdcjkiaaDoorBase
import Derived.Test.YtmenkahkdcjkiaaDoorFops
import Derived.Test.YtmenkahkdcjkiaaDoorRmet
import Derived.Test.YtmenkahkdcjkiaaDoorRord
import Derived.Test.YtmenkahkdcjkiaaDoorAlive3
import Derived.Test.YtmenkahkdcjkiaaDoorQPick
import Derived.Deep.QuietTactic
import Derived.BigQuiet
import Derived.Lib.QuietBelow
namespace Go.Proofs.YtmenkahkdcjkiaaDoor
open Go.RowKit Go.Sort

theorem kit_cells {w : World} {g p m : Nat} (h : Blk w g 34 (kitC p m)) : w.cell? ⟨g, 0, none⟩ = some (.int .i64 p) ∧ w.cell? ⟨g, 1, none⟩ = some (.int .i64 m) ∧ w.cell? ⟨g, 2, none⟩ = some (.int .i64 (fQ p m : Nat)) ∧ w.cell? ⟨g, 3, none⟩ = some (.int .i64 (modK m : Nat)) :=
  ⟨h.cell 0, h.cell 1, h.cell 2, h.cell 3⟩
set_option maxRecDepth 100000 in
set_option maxHeartbeats 4000000 in
theorem fmakes_form (P M a b : Int) (w : World) (hw : Tab w) (h : validF P M = false) : Calls Tryd.prog 4 #[.agg #[.int .i64 P, .int .i64 M], .int .i64 a, .int .i64 b] w fun e w' => e = .returned (.bool true) ∧ Below w.heap.size w w' := by
  have W0 := Lib.hid (hw.below ((Below.refl _ w).alloc (Nat.le_refl _) (.cells #[.int .i64 P, .int .i64 M] 23)))
  have B0 := Lib.hid ((Below.refl _ w).alloc (Nat.le_refl _) (.cells #[.int .i64 P, .int .i64 M] 23))
  have K0 := Lib.hid (Blk.new w 23 #[.int .i64 P, .int .i64 M])
  have H := Lib.hid h
  clear h
  go_enter Tryd.func4, Tryd.ntmps4
  go_wp2_with fail
  refine (Add_form P M a b _ W0.out H.out).mono ?_
  rintro e w1 ⟨rfl, b1⟩
  have W1 := Lib.hid (W0.out.below b1)
  have B1 := Lib.hid (B0.out.trans (b1.mono B0.out.size))
  have K1 := Lib.hid (K0.out.below b1)
  have c0 : w1.cell? ⟨w.heap.size, 0, none⟩ = some (.int .i64 P) := K1.out.cell 0
  have c1 : w1.cell? ⟨w.heap.size, 1, none⟩ = some (.int .i64 M) := K1.out.cell 1
  clear b1
  go_wp2_with fail
  refine (Sub_form P M a b _ W1.out H.out).mono ?_
  rintro e w2 ⟨rfl, b2⟩
  have W2 := Lib.hid (W1.out.below b2)
  have B2 := Lib.hid (B1.out.trans (b2.mono B1.out.size))
  have K2 := Lib.hid (K1.out.below b2)
  have c0 : w2.cell? ⟨w.heap.size, 0, none⟩ = some (.int .i64 P) := K2.out.cell 0
  have c1 : w2.cell? ⟨w.heap.size, 1, none⟩ = some (.int .i64 M) := K2.out.cell 1
  clear b2
  go_wp2_with fail
  refine (Mul_form P M a b _ W2.out H.out).mono ?_
  rintro e w3 ⟨rfl, b3⟩
  have W3 := Lib.hid (W2.out.below b3)
  have B3 := Lib.hid (B2.out.trans (b3.mono B2.out.size))
  have K3 := Lib.hid (K2.out.below b3)
  have c0 : w3.cell? ⟨w.heap.size, 0, none⟩ = some (.int .i64 P) := K3.out.cell 0
  have c1 : w3.cell? ⟨w.heap.size, 1, none⟩ = some (.int .i64 M) := K3.out.cell 1
  clear b3
  go_wp2_with fail
  refine (refvalid_any P M _).mono ?_
  rintro e w4 ⟨rfl, b4⟩
  rw [H.out]
  have W4 := Lib.hid (W3.out.below b4)
  have B4 := Lib.hid (B3.out.trans (b4.mono B3.out.size))
  clear b4
  go_wp2_with fail
  refine (is_bad 1 0 _ rfl).mono ?_
  rintro e w' ⟨rfl, rfl⟩
  go_wp2_with fail
  refine (is_bad 1 0 _ rfl).mono ?_
  rintro e w' ⟨rfl, rfl⟩
  go_wp2_with fail
  refine (is_bad 1 0 _ rfl).mono ?_
  rintro e w' ⟨rfl, rfl⟩
  go_wp2_with fail
  refine (alive_any _ W4.out).mono ?_
  rintro e w5 ⟨rfl, b5⟩
  have B5 := Lib.hid (B4.out.trans (b5.mono B4.out.size))
  clear b5
  go_wp2_with fail
  go_ret
  exact ⟨rfl, B5.out⟩

set_option maxRecDepth 100000 in
set_option maxHeartbeats 4000000 in
theorem fmakes_arg (p m : Nat) (a b : Int) (w : World) (hw : Tab w) (h : Vf p m) (hab : ¬ (isEl p m a ∧ isEl p m b)) : Calls Tryd.prog 4 #[.agg #[.int .i64 p, .int .i64 m], .int .i64 a, .int .i64 b] w fun e w' => e = .returned (.bool true) ∧ Below w.heap.size w w' := by
  have W0 := Lib.hid (hw.below ((Below.refl _ w).alloc (Nat.le_refl _) (.cells #[.int .i64 p, .int .i64 m] 23)))
  have B0 := Lib.hid ((Below.refl _ w).alloc (Nat.le_refl _) (.cells #[.int .i64 p, .int .i64 m] 23))
  have K0 := Lib.hid (Blk.new w 23 #[.int .i64 p, .int .i64 m])
  have H := Lib.hid h
  have HAB := Lib.hid hab
  clear h hab
  go_enter Tryd.func4, Tryd.ntmps4
  go_wp2_with fail
  refine (Add_arg p m a b _ W0.out H.out HAB.out).mono ?_
  rintro e w1 ⟨rfl, b1⟩
  have W1 := Lib.hid (W0.out.below b1)
  have B1 := Lib.hid (B0.out.trans (b1.mono B0.out.size))
  have K1 := Lib.hid (K0.out.below b1)
  have c0 : w1.cell? ⟨w.heap.size, 0, none⟩ = some (.int .i64 p) := K1.out.cell 0
  have c1 : w1.cell? ⟨w.heap.size, 1, none⟩ = some (.int .i64 m) := K1.out.cell 1
  clear b1
  go_wp2_with fail
  refine (Sub_arg p m a b _ W1.out H.out HAB.out).mono ?_
  rintro e w2 ⟨rfl, b2⟩
  have W2 := Lib.hid (W1.out.below b2)
  have B2 := Lib.hid (B1.out.trans (b2.mono B1.out.size))
  have K2 := Lib.hid (K1.out.below b2)
  have c0 : w2.cell? ⟨w.heap.size, 0, none⟩ = some (.int .i64 p) := K2.out.cell 0
  have c1 : w2.cell? ⟨w.heap.size, 1, none⟩ = some (.int .i64 m) := K2.out.cell 1
  clear b2
  go_wp2_with fail
  refine (Mul_arg p m a b _ W2.out H.out HAB.out).mono ?_
  rintro e w3 ⟨rfl, b3⟩
  have W3 := Lib.hid (W2.out.below b3)
  have B3 := Lib.hid (B2.out.trans (b3.mono B2.out.size))
  have K3 := Lib.hid (K2.out.below b3)
  have c0 : w3.cell? ⟨w.heap.size, 0, none⟩ = some (.int .i64 p) := K3.out.cell 0
  have c1 : w3.cell? ⟨w.heap.size, 1, none⟩ = some (.int .i64 m) := K3.out.cell 1
  clear b3
  go_wp2_with fail
  refine (refvalid_any p m _).mono ?_
  rintro e w4 ⟨rfl, b4⟩
  rw [H.out.valid]
  have W4 := Lib.hid (W3.out.below b4)
  have B4 := Lib.hid (B3.out.trans (b4.mono B3.out.size))
  have K4 := Lib.hid (K3.out.below b4)
  have c0 : w4.cell? ⟨w.heap.size, 0, none⟩ = some (.int .i64 p) := K4.out.cell 0
  have c1 : w4.cell? ⟨w.heap.size, 1, none⟩ = some (.int .i64 m) := K4.out.cell 1
  clear b4
  go_wp2_with fail
  refine (of_any p m _ H.out).mono ?_
  rintro e w5 ⟨rfl, b5⟩
  rw [show kitV p m = .agg #[.int .i64 p, .int .i64 m, .int .i64 (fQ p m : Nat), .int .i64 (modK m : Nat)] from rfl]
  have W5 := Lib.hid (W4.out.below b5)
  have B5 := Lib.hid (B4.out.trans (b5.mono B4.out.size))
  clear b5
  go_wp2_with fail
  obtain ⟨g, hg⟩ : ∃ g, g = w5.heap.size := ⟨_, rfl⟩
  have hG := Blk.new w5 34 (kitC p m)
  rw [← hg] at hG
  have hB6 := B5.out.alloc B5.out.size (.cells (kitC p m) 34)
  have hW6 := W5.out.below ((Below.refl _ w5).alloc (Nat.le_refl _) (.cells (kitC p m) 34))
  try rw [← hg]
  clear hg
  change Calls _ _ _ (w5.alloc (.cells (kitC p m) 34)) _
  obtain ⟨w6, hw6⟩ : ∃ w6, w6 = w5.alloc (.cells (kitC p m) 34) := ⟨_, rfl⟩
  rw [← hw6] at hG hB6 hW6 ⊢
  have W6 := Lib.hid hW6
  have B6 := Lib.hid hB6
  have G6 := Lib.hid hG
  clear hw6 hG hB6 hW6
  refine (kis_any p m a _ H.out).mono ?_
  rintro e w7 ⟨rfl, b7⟩
  have W7 := Lib.hid (W6.out.below b7)
  have B7 := Lib.hid (B6.out.trans (b7.mono B6.out.size))
  have G7 := Lib.hid (G6.out.below b7)
  clear b7
  by_cases ha : isEl p m a
  · have hb : ¬ isEl p m b := fun hb => HAB.out ⟨ha, hb⟩
    rw [decide_eq_true ha]
    have HBB := Lib.hid hb
    obtain ⟨k0, k1, k2, k3⟩ := kit_cells G7.out
    clear ha hb
    go_wp2_with fail
    refine (kis_any p m b _ H.out).mono ?_
    rintro e w8 ⟨rfl, b8⟩
    rw [decide_eq_false HBB.out]
    have W8 := Lib.hid (W7.out.below b8)
    have B8 := Lib.hid (B7.out.trans (b8.mono B7.out.size))
    clear b8
    go_wp2_with fail
    refine (is_bad 2 0 _ rfl).mono ?_
    rintro e w' ⟨rfl, rfl⟩
    go_wp2_with fail
    refine (is_bad 2 0 _ rfl).mono ?_
    rintro e w' ⟨rfl, rfl⟩
    go_wp2_with fail
    refine (is_bad 2 0 _ rfl).mono ?_
    rintro e w' ⟨rfl, rfl⟩
    go_wp2_with fail
    refine (alive_any _ W8.out).mono ?_
    rintro e w9 ⟨rfl, b9⟩
    have B9 := Lib.hid (B8.out.trans (b9.mono B8.out.size))
    clear b9
    go_wp2_with fail
    go_ret
    exact ⟨rfl, B9.out⟩
  · rw [decide_eq_false ha]
    clear ha
    go_wp2_with fail
    refine (is_bad 2 0 _ rfl).mono ?_
    rintro e w' ⟨rfl, rfl⟩
    go_wp2_with fail
    refine (is_bad 2 0 _ rfl).mono ?_
    rintro e w' ⟨rfl, rfl⟩
    go_wp2_with fail
    refine (is_bad 2 0 _ rfl).mono ?_
    rintro e w' ⟨rfl, rfl⟩
    go_wp2_with fail
    refine (alive_any _ W7.out).mono ?_
    rintro e w9 ⟨rfl, b9⟩
    have B9 := Lib.hid (B7.out.trans (b9.mono B7.out.size))
    clear b9
    go_wp2_with fail
    go_ret
    exact ⟨rfl, B9.out⟩

end Go.Proofs.YtmenkahkdcjkiaaDoor
