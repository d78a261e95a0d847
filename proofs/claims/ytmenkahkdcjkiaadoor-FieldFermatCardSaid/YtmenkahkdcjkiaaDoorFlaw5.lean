/- The walk of FieldFermat. -/
import Derived.Test.YtmenkahkdcjkiaaDoorProg
import Derived.Test.YtmenkahkdcjkiaaDoorBase
import Derived.Test.YtmenkahkdcjkiaaDoorFops
import Derived.Test.YtmenkahkdcjkiaaDoorFinv
import Derived.Test.YtmenkahkdcjkiaaDoorAlive3
import Derived.Test.YtmenkahkdcjkiaaDoorElt
import Derived.Test.YtmenkahkdcjkiaaDoorFlaw4
import Derived.Deep.QuietTactic
import Derived.BigQuiet
import Derived.Lib.QuietBelow
namespace Go.Proofs.YtmenkahkdcjkiaaDoor
open Go.RowKit Go.Sort

theorem frob {p m a b : Nat} (h : Vf p m) (ha : a < fQ p m) (hb : b < fQ p m) : pw (fmul p m) (fadd p m a b) p = fadd p m (pw (fmul p m) a p) (pw (fmul p m) b p) := by
  have F := h.fld
  have hab := F.add_lt a b ha hb
  by_cases hm : m = 1
  · subst hm
    have e : ∀ x, x < fQ p 1 → pw (fmul p 1) x p = x := fun x hx => F.pw_q hx
    rw [e _ hab, e a ha, e b hb]
  · obtain rfl : p = 2 := by rcases h with ⟨h, _⟩ | ⟨h, _⟩ <;> omega
    have e2 : ∀ x, x < fQ 2 m → pw (fmul 2 m) x 2 = fmul 2 m x x := fun x hx => by
      show fmul 2 m (fmul 2 m 1 x) x = _
      rw [F.one_mul hx]
    have ex : ∀ x y, fadd 2 m x y = x ^^^ y := fun x y => by unfold fadd; rw [if_neg hm]
    rw [e2 _ hab, e2 a ha, e2 b hb]
    rw [F.distrib_right ha hb hab, F.distrib a a b ha ha hb, F.distrib b a b hb ha hb, F.mul_comm b a hb ha]
    simp only [ex]
    rw [Nat.xor_assoc, ← Nat.xor_assoc (fmul 2 m a b) (fmul 2 m a b), Nat.xor_self, Nat.zero_xor]
/-- the sum of n elements a -/
def smF (p m a : Nat) : Nat → Nat
  | 0 => 0
  | n + 1 => fadd p m (smF p m a n) a
theorem smF_lt {p m a : Nat} (h : Vf p m) (ha : a < fQ p m) : ∀ n, smF p m a n < fQ p m
  | 0 => by have := h.q; show 0 < fQ p m; omega
  | n + 1 => h.fld.add_lt _ _ (smF_lt h ha n) ha
theorem smF_p {p m a : Nat} (h : Vf p m) : smF p m a p = 0 := by
  by_cases hm : m = 1
  · subst hm
    have hp : 0 < p := by rcases h with ⟨_, h, _⟩ | ⟨h, _⟩ <;> omega
    have key : ∀ n, smF p 1 a n = n * a % p := by
      intro n
      induction n with
      | zero => simp [smF]
      | succ n ih =>
        show (smF p 1 a n + a) % p = _
        rw [ih, Nat.succ_mul, Nat.mod_add_mod]
    rw [key, Nat.mul_mod_right]
  · obtain rfl : p = 2 := by rcases h with ⟨h, _⟩ | ⟨h, _⟩ <;> omega
    have ex : ∀ x y, fadd 2 m x y = x ^^^ y := fun x y => by unfold fadd; rw [if_neg hm]
    show fadd 2 m (fadd 2 m 0 a) a = 0
    rw [ex, ex, Nat.zero_xor, Nat.xor_self]
theorem allEl2 {p m : Nat} {a b : Int} : allEl p m [a, b] ↔ isEl p m a ∧ isEl p m b := by
  unfold allEl
  constructor
  · intro h; exact ⟨h 0 (by simp), h 1 (by simp)⟩
  · rintro ⟨h0, h1⟩ i hi
    match i, hi with
    | 0, _ => exact h0
    | 1, _ => exact h1

set_option maxRecDepth 100000 in
set_option maxHeartbeats 4000000 in
theorem ferm_no (P M a b : Int) (w : World) (hw : Tab w) (h : ∀ p m : Nat, P = p → M = m → Vf p m → ¬ (isEl p m a ∧ isEl p m b)) : Calls Tryd.prog 8 #[.agg #[.int .i64 P, .int .i64 M], .int .i64 a, .int .i64 b] w fun e w' => e = .returned (.bool true) ∧ Below w.heap.size w w' := by
  obtain ⟨w2, hw2⟩ : ∃ w2, w2 = (w.alloc (.cells #[.int .i64 P, .int .i64 M] 23)).alloc (.cells (ints [a, b]) 3) := ⟨_, rfl⟩
  have G2 := Lib.hid (show Blk w2 (w.heap.size + 1) 3 (ints [a, b]) by
    rw [hw2]
    have := Blk.new (w.alloc (.cells #[.int .i64 P, .int .i64 M] 23)) 3 (ints [a, b])
    rwa [World.size_alloc] at this)
  have K2 := Lib.hid (show Blk w2 w.heap.size 23 #[.int .i64 P, .int .i64 M] by rw [hw2]; exact (Blk.new _ _ _).alloc _)
  have B2 := Lib.hid (show Below w.heap.size w w2 by rw [hw2]; exact ((Below.refl _ w).alloc (Nat.le_refl _) _).alloc (by simp) _)
  have W2 := Lib.hid (hw.below B2.out)
  have HWW := Lib.hid hw2
  have HH := Lib.hid h
  clear h hw2
  go_enter Tryd.func8, Tryd.ntmps8
  go_wp2_with fail
  change Calls _ _ _ ((w.alloc (.cells #[.int .i64 P, .int .i64 M] 23)).alloc (.cells (ints [a, b]) 3)) _
  rw [← HWW.out]
  refine (elt_no P M (w.heap.size + 1) 2 [a, b] _ W2.out G2.out (by simp) rfl (fun p m e1 e2 hv h3 => HH.out p m e1 e2 hv (allEl2.1 h3))).mono ?_
  rintro e w3 ⟨rfl, b3⟩
  have B3 := Lib.hid (B2.out.trans (b3.mono B2.out.size))
  have W3 := Lib.hid (W2.out.below b3)
  clear b3
  go_wp2_with fail
  refine (alive_any _ W3.out).mono ?_
  rintro e w4 ⟨rfl, b4⟩
  have B4 := Lib.hid (B3.out.trans (b4.mono B3.out.size))
  clear b4
  go_wp2_with fail
  go_ret
  exact ⟨rfl, B4.out⟩
set_option maxRecDepth 100000 in
set_option maxHeartbeats 8000000 in
theorem ferm_yes (p m a b : Nat) (w : World) (hw : Tab w) (h : Vf p m) (ha : a < fQ p m) (hb : b < fQ p m) : Calls Tryd.prog 8 #[.agg #[.int .i64 p, .int .i64 m], .int .i64 a, .int .i64 b] w fun e w' => e = .returned (.bool true) ∧ Below w.heap.size w w' := by
  obtain ⟨w2, hw2⟩ : ∃ w2, w2 = (w.alloc (.cells #[.int .i64 p, .int .i64 m] 23)).alloc (.cells (ints [(a : Int), b]) 3) := ⟨_, rfl⟩
  have G2 := Lib.hid (show Blk w2 (w.heap.size + 1) 3 (ints [(a : Int), b]) by
    rw [hw2]
    have := Blk.new (w.alloc (.cells #[.int .i64 p, .int .i64 m] 23)) 3 (ints [(a : Int), b])
    rwa [World.size_alloc] at this)
  have K2 := Lib.hid (show Blk w2 w.heap.size 23 #[.int .i64 p, .int .i64 m] by rw [hw2]; exact (Blk.new _ _ _).alloc _)
  have B2 := Lib.hid (show Below w.heap.size w w2 by rw [hw2]; exact ((Below.refl _ w).alloc (Nat.le_refl _) _).alloc (by simp) _)
  have W2 := Lib.hid (hw.below B2.out)
  have HWW := Lib.hid hw2
  have F := h.fld
  have hq := h.q
  have hp2 : 2 ≤ p ∧ p ≤ 65536 := by rcases h with ⟨_, h1, h2, _⟩ | ⟨h, _⟩ <;> omega
  obtain ⟨q, hQ⟩ : ∃ q, q = fQ p m := ⟨_, rfl⟩
  obtain ⟨X, hX⟩ : ∃ X, X = pw (fmul p m) a p := ⟨_, rfl⟩
  obtain ⟨Y, hY⟩ : ∃ Y, Y = pw (fmul p m) b p := ⟨_, rfl⟩
  obtain ⟨AB, hAB⟩ : ∃ AB, AB = fadd p m a b := ⟨_, rfl⟩
  obtain ⟨Z, hZ⟩ : ∃ Z, Z = fadd p m X Y := ⟨_, rfl⟩
  have EQ := Lib.hid (show pw (fmul p m) a q = a by rw [hQ]; exact F.pw_q ha)
  have EX := Lib.hid hX.symm
  have EY := Lib.hid hY.symm
  have EAB := Lib.hid hAB.symm
  have EZ := Lib.hid hZ.symm
  have EZ2 := Lib.hid (show pw (fmul p m) AB p = Z by rw [hAB, hZ, hX, hY]; exact frob h ha hb)
  have LAB := Lib.hid (show AB < fQ p m by rw [hAB]; exact F.add_lt _ _ ha hb)
  have LX := Lib.hid (show X < fQ p m by rw [hX]; exact F.pw_lt ha _)
  have LY := Lib.hid (show Y < fQ p m by rw [hY]; exact F.pw_lt hb _)
  have HQ := Lib.hid hQ
  have HQ2 := Lib.hid hq
  have H := Lib.hid h
  have HA := Lib.hid ha
  have HB := Lib.hid hb
  have HSP := Lib.hid (show smF p m a p = 0 from smF_p h)
  clear h hw2 ha hb F hq hQ hX hY hAB hZ
  go_enter Tryd.func8, Tryd.ntmps8
  go_wp2_with fail
  change Calls _ _ _ ((w.alloc (.cells #[.int .i64 p, .int .i64 m] 23)).alloc (.cells (ints [(a : Int), b]) 3)) _
  rw [← HWW.out]
  refine (elt_yes p m (w.heap.size + 1) 2 [(a : Int), b] _ W2.out H.out G2.out (by simp) rfl (allEl2.2 ⟨⟨by omega, by have := HA.out; omega⟩, ⟨by omega, by have := HB.out; omega⟩⟩)).mono ?_
  rintro e w3 ⟨rfl, b3⟩
  have B3 := Lib.hid (B2.out.trans (b3.mono B2.out.size))
  have W3 := Lib.hid (W2.out.below b3)
  have K3 := Lib.hid (K2.out.below b3)
  clear b3
  go_wp2_with fail
  have r0 := cell_regrown (show w3.cell? ⟨w.heap.size, 0, none⟩ = some (.int .i64 p) from K3.out.cell 0)
  have r1 := cell_regrown (show w3.cell? ⟨w.heap.size, 1, none⟩ = some (.int .i64 m) from K3.out.cell 1)
  have cO : ∀ d os, Calls Tryd.prog 14 #[.agg #[.int .i64 p, .int .i64 m]] (grow (redrawn w3 d) os) fun e w'' => e = .returned (.int .i64 q) ∧ ∃ p : Regrown, w'' = grow (redrawn w3 p.d) p.os := fun d os => Calls.regrown_of (by rw [HQ.out]; exact Order_yes p m _ (W3.out.below (below_regrown w3 d os)) H.out)
  have cP : ∀ d os, Calls Tryd.prog 27 #[.agg #[.int .i64 p, .int .i64 m], .int .i64 a, .int .i64 q] (grow (redrawn w3 d) os) fun e w'' => e = .returned (.tuple #[.int .i64 a, .int .i64 0]) ∧ ∃ p : Regrown, w'' = grow (redrawn w3 p.d) p.os := fun d os => Calls.regrown_of (by have h0 := Power_yes p m a q _ (W3.out.below (below_regrown w3 d os)) H.out HA.out (by have := HQ2.out; rw [← HQ.out] at this; omega); rw [EQ.out] at h0; exact h0)
  refine wp_region_quiet_below (by kernel_rfl) (by kernel_rfl) ?_
  repeat (go_big_quiet_step (with_reducible first | exact cO _ _ | exact cP _ _))
  refine wpQuiet_nil ?_
  intro _ hw'
  obtain ⟨⟨dq, osq⟩, hw''⟩ := hw'
  subst hw''
  have hbb := below_regrown w3 dq osq
  have B4 := Lib.hid (B3.out.trans (hbb.mono B3.out.size))
  have W4 := Lib.hid (W3.out.below hbb)
  have K4 := Lib.hid (K3.out.below hbb)
  clear r0 r1 cO cP hbb
  generalize grow (redrawn w3 dq) osq = w4 at *
  have c0 : w4.cell? ⟨w.heap.size, 0, none⟩ = some (.int .i64 p) := K4.out.cell 0
  have c1 : w4.cell? ⟨w.heap.size, 1, none⟩ = some (.int .i64 m) := K4.out.cell 1
  go_wp2_with fail
  refine (Power_yes p m a p _ W4.out H.out HA.out (by omega)).mono ?_
  rintro e w5 ⟨rfl, b5⟩
  have B5 := Lib.hid (B4.out.trans (b5.mono B4.out.size))
  have W5 := Lib.hid (W4.out.below b5)
  have K5 := Lib.hid (K4.out.below b5)
  clear b5
  rw [EX.out]
  clear c0 c1
  have c0 : w5.cell? ⟨w.heap.size, 0, none⟩ = some (.int .i64 p) := K5.out.cell 0
  have c1 : w5.cell? ⟨w.heap.size, 1, none⟩ = some (.int .i64 m) := K5.out.cell 1
  go_wp2_with fail
  refine (Power_yes p m b p _ W5.out H.out HB.out (by omega)).mono ?_
  rintro e w6 ⟨rfl, b6⟩
  have B6 := Lib.hid (B5.out.trans (b6.mono B5.out.size))
  have W6 := Lib.hid (W5.out.below b6)
  have K6 := Lib.hid (K5.out.below b6)
  clear b6
  rw [EY.out]
  clear c0 c1
  go_wp2_with fail
  have r0 := cell_regrown (show w6.cell? ⟨w.heap.size, 0, none⟩ = some (.int .i64 p) from K6.out.cell 0)
  have r1 := cell_regrown (show w6.cell? ⟨w.heap.size, 1, none⟩ = some (.int .i64 m) from K6.out.cell 1)
  have cA : ∀ d os, Calls Tryd.prog 35 #[.agg #[.int .i64 p, .int .i64 m], .int .i64 a, .int .i64 b] (grow (redrawn w6 d) os) fun e w'' => e = .returned (.int .i64 AB) ∧ ∃ p : Regrown, w'' = grow (redrawn w6 p.d) p.os := fun d os => Calls.regrown_of (by have h0 := ladd_any p m a b _ (W6.out.below (below_regrown w6 d os)) H.out HA.out HB.out; rw [EAB.out] at h0; exact h0)
  have cP : ∀ d os, Calls Tryd.prog 27 #[.agg #[.int .i64 p, .int .i64 m], .int .i64 AB, .int .i64 p] (grow (redrawn w6 d) os) fun e w'' => e = .returned (.tuple #[.int .i64 Z, .int .i64 0]) ∧ ∃ p : Regrown, w'' = grow (redrawn w6 p.d) p.os := fun d os => Calls.regrown_of (by have h0 := Power_yes p m AB p _ (W6.out.below (below_regrown w6 d os)) H.out LAB.out (by omega); rw [EZ2.out] at h0; exact h0)
  refine wp_region_quiet_below (by kernel_rfl) (by kernel_rfl) ?_
  repeat (go_big_quiet_step (with_reducible first | exact cA _ _ | exact cP _ _))
  refine wpQuiet_nil ?_
  intro _ hw'
  obtain ⟨⟨dq, osq⟩, hw''⟩ := hw'
  subst hw''
  have hbb := below_regrown w6 dq osq
  have B7 := Lib.hid (B6.out.trans (hbb.mono B6.out.size))
  have W7 := Lib.hid (W6.out.below hbb)
  have K7 := Lib.hid (K6.out.below hbb)
  clear r0 r1 cA cP hbb
  generalize grow (redrawn w6 dq) osq = w7 at *
  go_wp2_with fail
  go_loopw [15, 16] (fun sv nv wr => ∃ n S : Nat, nv = .int .i64 n ∧ sv = .int .i64 S ∧ n ≤ p ∧ n ≤ 100 ∧ Hid (S = smF p m a n) ∧ Hid (Below w.heap.size w wr) ∧ Hid (Tab wr) ∧ Hid (Blk wr w.heap.size 23 #[.int .i64 p, .int .i64 m])) (fun _ nv _ => 100 - (intOf nv).toNat)
  case atStart => exact ⟨0, 0, rfl, rfl, Nat.zero_le _, by omega, Lib.hid rfl, B7, W7, K7⟩
  case round =>
    obtain ⟨n, S, rfl, rfl, hnp, hn100, hS, B8, W8, K8⟩ := hrel
    have c0 : wr.cell? ⟨w.heap.size, 0, none⟩ = some (.int .i64 p) := K8.out.cell 0
    have c1 : wr.cell? ⟨w.heap.size, 1, none⟩ = some (.int .i64 m) := K8.out.cell 1
    by_cases hlt : n < p ∧ n < 100
    · obtain ⟨l1, l2⟩ := hlt
      have LS := Lib.hid (show S < fQ p m by rw [hS.out]; exact smF_lt H.out HA.out n)
      go_wp2_with fail
      refine (ladd_any p m S a _ W8.out H.out LS.out HA.out).mono ?_
      rintro e w9 ⟨rfl, b9⟩
      have B9 := Lib.hid (B8.out.trans (b9.mono B8.out.size))
      have W9 := Lib.hid (W8.out.below b9)
      have K9 := Lib.hid (K8.out.below b9)
      obtain ⟨S2, hS2⟩ : ∃ S2, S2 = fadd p m S a := ⟨_, rfl⟩
      have HS2 := Lib.hid (show S2 = smF p m a (n + 1) by rw [hS2, hS.out]; rfl)
      rw [← hS2]
      clear b9 c0 c1 hS2
      go_wp2_with fail
      go_roundw
      case rel => exact ⟨n + 1, S2, by go_num, rfl, by omega, by omega, HS2, B9, W9, K9⟩
      case measure => simp [intOf]; omega
    · by_cases hn : n < p
      · have hn1 : ¬ n < 100 := fun h => hlt ⟨hn, h⟩
        have hp100 : 100 < p := by omega
        clear hlt
        go_wp2_with fail
        refine (ladd_any p m X Y _ W8.out H.out LX.out LY.out).mono ?_
        rintro e w9 ⟨rfl, b9⟩
        have B9 := Lib.hid (B8.out.trans (b9.mono B8.out.size))
        have W9 := Lib.hid (W8.out.below b9)
        have K9 := Lib.hid (K8.out.below b9)
        rw [EZ.out]
        clear b9 c0 c1
        have c0 : w9.cell? ⟨w.heap.size, 0, none⟩ = some (.int .i64 p) := K9.out.cell 0
        have c1 : w9.cell? ⟨w.heap.size, 1, none⟩ = some (.int .i64 m) := K9.out.cell 1
        go_wp2_with fail
        refine (alive_any _ W9.out).mono ?_
        rintro e w10 ⟨rfl, b10⟩
        have B10 := Lib.hid (B9.out.trans (b10.mono B9.out.size))
        clear b10
        go_wp2_with fail
        go_ret
        exact ⟨rfl, B10.out⟩
      · have hnp' : n = p := by omega
        have hS0 : S = 0 := by rw [hS.out, hnp']; exact HSP.out
        subst hS0
        have hp100 : ¬ 100 < p := by omega
        clear hlt hnp'
        go_wp2_with fail
        refine (ladd_any p m X Y _ W8.out H.out LX.out LY.out).mono ?_
        rintro e w9 ⟨rfl, b9⟩
        have B9 := Lib.hid (B8.out.trans (b9.mono B8.out.size))
        have W9 := Lib.hid (W8.out.below b9)
        have K9 := Lib.hid (K8.out.below b9)
        rw [EZ.out]
        clear b9 c0 c1
        have c0 : w9.cell? ⟨w.heap.size, 0, none⟩ = some (.int .i64 p) := K9.out.cell 0
        have c1 : w9.cell? ⟨w.heap.size, 1, none⟩ = some (.int .i64 m) := K9.out.cell 1
        go_wp2_with fail
        refine (alive_any _ W9.out).mono ?_
        rintro e w10 ⟨rfl, b10⟩
        have B10 := Lib.hid (B9.out.trans (b10.mono B9.out.size))
        clear b10
        go_wp2_with fail
        go_ret
        exact ⟨rfl, B10.out⟩

theorem ferm_law (P M a b : Int) (w : World) (hw : Tab w) : Calls Tryd.prog 8 #[.agg #[.int .i64 P, .int .i64 M], .int .i64 a, .int .i64 b] w fun e w' => e = .returned (.bool true) ∧ Below w.heap.size w w' := by
  by_cases h : ∃ p m : Nat, P = p ∧ M = m ∧ Vf p m ∧ (isEl p m a ∧ isEl p m b)
  · obtain ⟨p, m, rfl, rfl, hv, ⟨ha0, ha⟩, hb0, hb⟩ := h
    obtain ⟨x, rfl⟩ := Int.eq_ofNat_of_zero_le ha0
    obtain ⟨y, rfl⟩ := Int.eq_ofNat_of_zero_le hb0
    exact ferm_yes p m x y w hw hv (by omega) (by omega)
  · exact ferm_no P M a b w hw fun p m e1 e2 hv h3 => h ⟨p, m, e1, e2, hv, h3⟩
end Go.Proofs.YtmenkahkdcjkiaaDoor
