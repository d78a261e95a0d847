/- The walk of FieldMakes at elements. -/
import Derived.Test.YtmenkahkdcjkiaaDoorProg
import Derived.Test.YtmenkahkdcjkiaaDoorBase
import Derived.Test.YtmenkahkdcjkiaaDoorFlaw2
namespace Go.Proofs.YtmenkahkdcjkiaaDoor
open Go.RowKit Go.Sort

set_option maxRecDepth 100000 in
set_option maxHeartbeats 4000000 in
theorem fmakes_yes (p m a b : Nat) (w : World) (hw : Tab w) (h : Vf p m) (ha : a < fQ p m) (hb : b < fQ p m) : Calls Tryd.prog 4 #[.agg #[.int .i64 p, .int .i64 m], .int .i64 a, .int .i64 b] w fun e w' => e = .returned (.bool true) ∧ Below w.heap.size w w' := by
  have W0 := Lib.hid (hw.below ((Below.refl _ w).alloc (Nat.le_refl _) (.cells #[.int .i64 p, .int .i64 m] 23)))
  have B0 := Lib.hid ((Below.refl _ w).alloc (Nat.le_refl _) (.cells #[.int .i64 p, .int .i64 m] 23))
  have K0 := Lib.hid (Blk.new w 23 #[.int .i64 p, .int .i64 m])
  have H := Lib.hid h
  have HA := Lib.hid ha
  have HB := Lib.hid hb
  have EA := Lib.hid (show isEl p m a from ⟨by omega, by omega⟩)
  have EB := Lib.hid (show isEl p m b from ⟨by omega, by omega⟩)
  have HS := Lib.hid (fsub_eq p m a b)
  have hnl := fneg_lt h hb
  obtain ⟨A, hA⟩ : ∃ A, A = fadd p m a b := ⟨_, rfl⟩
  obtain ⟨N, hN⟩ : ∃ N, N = fneg p m b := ⟨_, rfl⟩
  have HN2 := Lib.hid (hN ▸ hnl)
  rw [← hN] at HS
  obtain ⟨D, hD⟩ : ∃ D, D = fadd p m a N := ⟨_, rfl⟩
  rw [← hD] at HS
  obtain ⟨X, hX⟩ : ∃ X, X = fmul p m a b := ⟨_, rfl⟩
  obtain ⟨q, hQ⟩ : ∃ q, q = fQ p m := ⟨_, rfl⟩
  obtain ⟨T, hT⟩ : ∃ T, T = modK m := ⟨_, rfl⟩
  have EA' := Lib.hid hA
  have EN := Lib.hid hN
  have ED := Lib.hid hD
  have EX := Lib.hid hX
  have HK := Lib.hid (show kitV p m = .agg #[.int .i64 p, .int .i64 m, .int .i64 q, .int .i64 T] by rw [hQ, hT]; rfl)
  have HC := Lib.hid (show kitC p m = #[.int .i64 p, .int .i64 m, .int .i64 q, .int .i64 T] by rw [hQ, hT]; rfl)
  clear h ha hb hA hN hD hX hnl hQ hT
  go_enter Tryd.func4, Tryd.ntmps4
  go_wp2_with fail
  refine (Add_yes p m a b _ W0.out H.out HA.out HB.out).mono ?_
  rintro e w1 ⟨rfl, b1⟩
  rw [← EA'.out]
  have W1 := Lib.hid (W0.out.below b1)
  have B1 := Lib.hid (B0.out.trans (b1.mono B0.out.size))
  have K1 := Lib.hid (K0.out.below b1)
  have c0 : w1.cell? ⟨w.heap.size, 0, none⟩ = some (.int .i64 p) := K1.out.cell 0
  have c1 : w1.cell? ⟨w.heap.size, 1, none⟩ = some (.int .i64 m) := K1.out.cell 1
  clear b1
  go_wp2_with fail
  refine (Sub_yes p m a b _ W1.out H.out HA.out HB.out).mono ?_
  rintro e w2 ⟨rfl, b2⟩
  rw [HS.out]
  have W2 := Lib.hid (W1.out.below b2)
  have B2 := Lib.hid (B1.out.trans (b2.mono B1.out.size))
  have K2 := Lib.hid (K1.out.below b2)
  have c0 : w2.cell? ⟨w.heap.size, 0, none⟩ = some (.int .i64 p) := K2.out.cell 0
  have c1 : w2.cell? ⟨w.heap.size, 1, none⟩ = some (.int .i64 m) := K2.out.cell 1
  clear b2
  go_wp2_with fail
  refine (Mul_yes p m a b _ W2.out H.out HA.out HB.out).mono ?_
  rintro e w3 ⟨rfl, b3⟩
  rw [← EX.out]
  have W3 := Lib.hid (W2.out.below b3)
  have B3 := Lib.hid (B2.out.trans (b3.mono B2.out.size))
  have K3 := Lib.hid (K2.out.below b3)
  have c0 : w3.cell? ⟨w.heap.size, 0, none⟩ = some (.int .i64 p) := K3.out.cell 0
  have c1 : w3.cell? ⟨w.heap.size, 1, none⟩ = some (.int .i64 m) := K3.out.cell 1
  clear b3
  go_wp2_with fail
  refine (refvalid_any p m _).mono ?_
  rintro e w4 ⟨rfl, b4⟩
  rw [H.out.valid]
  have W4 := Lib.hid (W3.out.below b4)
  have B4 := Lib.hid (B3.out.trans (b4.mono B3.out.size))
  have K4 := Lib.hid (K3.out.below b4)
  have c0 : w4.cell? ⟨w.heap.size, 0, none⟩ = some (.int .i64 p) := K4.out.cell 0
  have c1 : w4.cell? ⟨w.heap.size, 1, none⟩ = some (.int .i64 m) := K4.out.cell 1
  clear b4
  go_wp2_with fail
  refine (of_any p m _ H.out).mono ?_
  rintro e w5 ⟨rfl, b5⟩
  rw [HK.out]
  have W5 := Lib.hid (W4.out.below b5)
  have B5 := Lib.hid (B4.out.trans (b5.mono B4.out.size))
  clear b5
  go_wp2_with fail
  obtain ⟨g, hg⟩ : ∃ g, g = w5.heap.size := ⟨_, rfl⟩
  have hG := Blk.new w5 34 #[.int .i64 p, .int .i64 m, .int .i64 q, .int .i64 T]
  rw [← hg] at hG
  have hB6 := B5.out.alloc B5.out.size (.cells #[.int .i64 p, .int .i64 m, .int .i64 q, .int .i64 T] 34)
  have hW6 := W5.out.below ((Below.refl _ w5).alloc (Nat.le_refl _) (.cells #[.int .i64 p, .int .i64 m, .int .i64 q, .int .i64 T] 34))
  try rw [← hg]
  clear hg
  change Calls _ _ _ (w5.alloc (.cells #[.int .i64 p, .int .i64 m, .int .i64 q, .int .i64 T] 34)) _
  obtain ⟨w6, hw6⟩ : ∃ w6, w6 = w5.alloc (.cells #[.int .i64 p, .int .i64 m, .int .i64 q, .int .i64 T] 34) := ⟨_, rfl⟩
  rw [← hw6] at hG hB6 hW6 ⊢
  have W6 := Lib.hid hW6
  have B6 := Lib.hid hB6
  have G6 := Lib.hid hG
  clear hw6 hG hB6 hW6
  refine (HK.out ▸ kis_any p m a _ H.out : Calls _ _ #[.agg #[.int .i64 p, .int .i64 m, .int .i64 q, .int .i64 T], .int .i64 a] _ _).mono ?_
  rintro e w7 ⟨rfl, b7⟩
  rw [decide_eq_true EA.out]
  have W7 := Lib.hid (W6.out.below b7)
  have B7 := Lib.hid (B6.out.trans (b7.mono B6.out.size))
  have G7 := Lib.hid (G6.out.below b7)
  have k0 := G7.out.cell 0
  have k1 := G7.out.cell 1
  have k2 := G7.out.cell 2
  have k3 := G7.out.cell 3
  simp at k0 k1 k2 k3
  clear b7
  go_wp2_with fail
  refine (HK.out ▸ kis_any p m b _ H.out : Calls _ _ #[.agg #[.int .i64 p, .int .i64 m, .int .i64 q, .int .i64 T], .int .i64 b] _ _).mono ?_
  rintro e w8 ⟨rfl, b8⟩
  rw [decide_eq_true EB.out]
  have W8 := Lib.hid (W7.out.below b8)
  have B8 := Lib.hid (B7.out.trans (b8.mono B7.out.size))
  have G8 := Lib.hid (G7.out.below b8)
  clear b8 k0 k1 k2 k3
  go_wp2_with fail
  have k0 := G8.out.cell 0
  have k1 := G8.out.cell 1
  have k2 := G8.out.cell 2
  have k3 := G8.out.cell 3
  simp at k0 k1 k2 k3
  have r0 := cell_regrown k0
  have r1 := cell_regrown k1
  have r2 := cell_regrown k2
  have r3 := cell_regrown k3
  have cAdd : ∀ d os, Calls Tryd.prog 23 #[.agg #[.int .i64 p, .int .i64 m, .int .i64 q, .int .i64 T], .int .i64 a, .int .i64 b] (grow (redrawn w8 d) os) fun e w'' => e = .returned (.int .i64 A) ∧ ∃ p : Regrown, w'' = grow (redrawn w8 p.d) p.os := fun d os => Calls.regrown_of (by rw [EA'.out, ← HK.out]; exact kadd_any p m a b _ H.out HA.out HB.out)
  have cNeg : ∀ d os, Calls Tryd.prog 24 #[.agg #[.int .i64 p, .int .i64 m, .int .i64 q, .int .i64 T], .int .i64 b] (grow (redrawn w8 d) os) fun e w'' => e = .returned (.int .i64 N) ∧ ∃ p : Regrown, w'' = grow (redrawn w8 p.d) p.os := fun d os => Calls.regrown_of (by rw [EN.out, ← HK.out]; exact kneg_any p m b _ H.out HB.out)
  have cAdd2 : ∀ d os, Calls Tryd.prog 23 #[.agg #[.int .i64 p, .int .i64 m, .int .i64 q, .int .i64 T], .int .i64 a, .int .i64 N] (grow (redrawn w8 d) os) fun e w'' => e = .returned (.int .i64 D) ∧ ∃ p : Regrown, w'' = grow (redrawn w8 p.d) p.os := fun d os => Calls.regrown_of (by rw [ED.out, ← HK.out]; exact kadd_any p m a N _ H.out HA.out HN2.out)
  have cMul : ∀ d os, Calls Tryd.prog 25 #[.agg #[.int .i64 p, .int .i64 m, .int .i64 q, .int .i64 T], .int .i64 a, .int .i64 b] (grow (redrawn w8 d) os) fun e w'' => e = .returned (.int .i64 X) ∧ ∃ p : Regrown, w'' = grow (redrawn w8 p.d) p.os := fun d os => Calls.regrown_of (by rw [EX.out, ← HK.out]; exact kmul_any p m a b _ H.out HA.out HB.out)
  have cIs : ∀ x d os, Calls Tryd.prog 15 #[.int .i64 x, .int .i64 0, .int .i64 x, .int .i64 0] (grow (redrawn w8 d) os) fun e w'' => e = .returned (.bool true) ∧ ∃ p : Regrown, w'' = grow (redrawn w8 p.d) p.os := fun x d os => Calls.regrown_of ((is_ok x _).mono fun _ _ ⟨he, hw⟩ => ⟨he, hw ▸ Below.refl _ _⟩)
  have cAl : ∀ d os, Calls Tryd.prog 16 #[] (grow (redrawn w8 d) os) fun e w'' => e = .returned (.bool true) ∧ ∃ p : Regrown, w'' = grow (redrawn w8 p.d) p.os := fun d os => Calls.regrown_of (alive_any _ (W8.out.below (below_regrown w8 d os)))
  clear k0 k1 k2 k3
  refine wp_region_quiet_below (by kernel_rfl) (by kernel_rfl) ?_
  repeat (go_big_quiet_step (with_reducible first | exact cAdd _ _ | exact cNeg _ _ | exact cAdd2 _ _ | exact cMul _ _ | exact cIs _ _ _ | exact cAl _ _))
  refine wpQuiet_nil ?_
  intro _ hw'
  obtain ⟨⟨dq, osq⟩, hw''⟩ := hw'
  subst hw''
  have hb9 := Lib.hid (B8.out.trans ((below_regrown w8 dq osq).mono B8.out.size))
  clear r0 r1 r2 r3 cAdd cNeg cAdd2 cMul cIs cAl
  generalize grow (redrawn w8 dq) osq = w9 at *
  go_wp2_with fail
  go_ret
  exact ⟨rfl, hb9.out⟩
theorem fmakes_law (P M a b : Int) (w : World) (hw : Tab w) : Calls Tryd.prog 4 #[.agg #[.int .i64 P, .int .i64 M], .int .i64 a, .int .i64 b] w fun e w' => e = .returned (.bool true) ∧ Below w.heap.size w w' := by
  cases h : validF P M with
  | false => exact fmakes_form P M a b w hw h
  | true =>
    obtain ⟨p, m, rfl, rfl, hv⟩ := Vf.of h
    by_cases hab : isEl p m a ∧ isEl p m b
    · obtain ⟨⟨ha0, ha⟩, hb0, hb⟩ := hab
      obtain ⟨x, rfl⟩ := Int.eq_ofNat_of_zero_le ha0
      obtain ⟨y, rfl⟩ := Int.eq_ofNat_of_zero_le hb0
      exact fmakes_yes p m x y w hw hv (by omega) (by omega)
    · exact fmakes_arg p m a b w hw hv hab
end Go.Proofs.YtmenkahkdcjkiaaDoor
