/- The walk of FieldPowers. -/
import Derived.Test.YtmenkahkdcjkiaaDoorProg
import Derived.Test.YtmenkahkdcjkiaaDoorBase
import Derived.Test.YtmenkahkdcjkiaaDoorFops
import Derived.Test.YtmenkahkdcjkiaaDoorFinv
import Derived.Test.YtmenkahkdcjkiaaDoorRpow
import Derived.Test.YtmenkahkdcjkiaaDoorRord
import Derived.Test.YtmenkahkdcjkiaaDoorAlive3
namespace Go.Proofs.YtmenkahkdcjkiaaDoor
open Go.RowKit

set_option maxRecDepth 100000 in
set_option maxHeartbeats 4000000 in
theorem fpow_form (P M a k : Int) (w : World) (hw : Tab w) (h : validF P M = false) : Calls Tryd.prog 5 #[.agg #[.int .i64 P, .int .i64 M], .int .i64 a, .int .i64 k] w fun e w' => e = .returned (.bool true) ∧ Below w.heap.size w w' := by
  have W0 := Lib.hid (hw.below ((Below.refl _ w).alloc (Nat.le_refl _) (.cells #[.int .i64 P, .int .i64 M] 23)))
  have B0 := Lib.hid ((Below.refl _ w).alloc (Nat.le_refl _) (.cells #[.int .i64 P, .int .i64 M] 23))
  have K0 := Lib.hid (Blk.new w 23 #[.int .i64 P, .int .i64 M])
  have H := Lib.hid h
  clear h
  go_enter Tryd.func5, Tryd.ntmps5
  go_wp2_with fail
  refine (Inverse_form P M a _ W0.out H.out).mono ?_
  rintro e w1 ⟨rfl, b1⟩
  have W1 := Lib.hid (W0.out.below b1)
  have B1 := Lib.hid (B0.out.trans (b1.mono B0.out.size))
  have K1 := Lib.hid (K0.out.below b1)
  have c0 : w1.cell? ⟨w.heap.size, 0, none⟩ = some (.int .i64 P) := K1.out.cell 0
  have c1 : w1.cell? ⟨w.heap.size, 1, none⟩ = some (.int .i64 M) := K1.out.cell 1
  clear b1
  go_wp2_with fail
  refine (Power_form P M a k _ W1.out H.out).mono ?_
  rintro e w2 ⟨rfl, b2⟩
  have W2 := Lib.hid (W1.out.below b2)
  have B2 := Lib.hid (B1.out.trans (b2.mono B1.out.size))
  have K2 := Lib.hid (K1.out.below b2)
  have c0 : w2.cell? ⟨w.heap.size, 0, none⟩ = some (.int .i64 P) := K2.out.cell 0
  have c1 : w2.cell? ⟨w.heap.size, 1, none⟩ = some (.int .i64 M) := K2.out.cell 1
  clear b2
  go_wp2_with fail
  refine (refvalid_any P M _).mono ?_
  rintro e w4 ⟨rfl, b4⟩
  rw [H.out]
  have W4 := Lib.hid (W2.out.below b4)
  have B4 := Lib.hid (B2.out.trans (b4.mono B2.out.size))
  clear b4
  go_wp2_with fail
  refine (is_bad 1 0 _ rfl).mono ?_
  rintro e w' ⟨rfl, rfl⟩
  go_wp2_with fail
  refine (is_bad 1 0 _ rfl).mono ?_
  rintro e w' ⟨rfl, rfl⟩
  go_wp2_with fail
  refine (alive_any _ W4.out).mono ?_
  rintro e w5 ⟨rfl, b5⟩
  have B5 := Lib.hid (B4.out.trans (b5.mono B4.out.size))
  clear b5
  go_wp2_with fail
  go_ret
  exact ⟨rfl, B5.out⟩

set_option maxRecDepth 100000 in
set_option maxHeartbeats 4000000 in
theorem fpow_valid (p m : Nat) (a k : Int) (w : World) (hw : Tab w) (h : Vf p m) (vi ei vp ep : Int)
    (hinv : ∀ w, Tab w → Calls Tryd.prog 26 #[.agg #[.int .i64 p, .int .i64 m], .int .i64 a] w fun e w' => e = .returned (.tuple #[.int .i64 vi, .int .i64 ei]) ∧ Below w.heap.size w w')
    (hpow : ∀ w, Tab w → Calls Tryd.prog 27 #[.agg #[.int .i64 p, .int .i64 m], .int .i64 a, .int .i64 k] w fun e w' => e = .returned (.tuple #[.int .i64 vp, .int .i64 ep]) ∧ Below w.heap.size w w')
    (hc : (¬ isEl p m a ∧ vi = 0 ∧ ei = 2 ∧ vp = 0 ∧ ep = 2) ∨ ∃ x : Nat, a = x ∧ x < fQ p m ∧ ((x = 0 ∧ vi = 0 ∧ ei = 6) ∨ (0 < x ∧ vi = (pw (fmul p m) x (fQ p m - 2) : Nat) ∧ ei = 0)) ∧ ((k < 0 ∧ vp = 0 ∧ ep = 2) ∨ ∃ n : Nat, k = n ∧ n ≤ 9223372036854775807 ∧ vp = (pw (fmul p m) x n : Nat) ∧ ep = 0)) :
    Calls Tryd.prog 5 #[.agg #[.int .i64 p, .int .i64 m], .int .i64 a, .int .i64 k] w fun e w' => e = .returned (.bool true) ∧ Below w.heap.size w w' := by
  have W0 := Lib.hid (hw.below ((Below.refl _ w).alloc (Nat.le_refl _) (.cells #[.int .i64 p, .int .i64 m] 23)))
  have B0 := Lib.hid ((Below.refl _ w).alloc (Nat.le_refl _) (.cells #[.int .i64 p, .int .i64 m] 23))
  have K0 := Lib.hid (Blk.new w 23 #[.int .i64 p, .int .i64 m])
  have H := Lib.hid h
  have HI := Lib.hid hinv
  have HP := Lib.hid hpow
  have HCs := Lib.hid hc
  obtain ⟨q, hQ⟩ : ∃ q, q = fQ p m := ⟨_, rfl⟩
  obtain ⟨T, hT⟩ : ∃ T, T = modK m := ⟨_, rfl⟩
  have HK := Lib.hid (show kitV p m = .agg #[.int .i64 p, .int .i64 m, .int .i64 q, .int .i64 T] by rw [hQ, hT]; rfl)
  clear h hinv hpow hc hQ hT
  go_enter Tryd.func5, Tryd.ntmps5
  go_wp2_with fail
  refine (HI.out _ W0.out).mono ?_
  rintro e w1 ⟨rfl, b1⟩
  have W1 := Lib.hid (W0.out.below b1)
  have B1 := Lib.hid (B0.out.trans (b1.mono B0.out.size))
  have K1 := Lib.hid (K0.out.below b1)
  have c0 : w1.cell? ⟨w.heap.size, 0, none⟩ = some (.int .i64 p) := K1.out.cell 0
  have c1 : w1.cell? ⟨w.heap.size, 1, none⟩ = some (.int .i64 m) := K1.out.cell 1
  clear b1
  go_wp2_with fail
  refine (HP.out _ W1.out).mono ?_
  rintro e w2 ⟨rfl, b2⟩
  have W2 := Lib.hid (W1.out.below b2)
  have B2 := Lib.hid (B1.out.trans (b2.mono B1.out.size))
  have K2 := Lib.hid (K1.out.below b2)
  have c0 : w2.cell? ⟨w.heap.size, 0, none⟩ = some (.int .i64 p) := K2.out.cell 0
  have c1 : w2.cell? ⟨w.heap.size, 1, none⟩ = some (.int .i64 m) := K2.out.cell 1
  clear b2
  go_wp2_with fail
  refine (refvalid_any p m _).mono ?_
  rintro e w4 ⟨rfl, b4⟩
  rw [H.out.valid]
  have W4 := Lib.hid (W2.out.below b4)
  have B4 := Lib.hid (B2.out.trans (b4.mono B2.out.size))
  have K4 := Lib.hid (K2.out.below b4)
  have c0 : w4.cell? ⟨w.heap.size, 0, none⟩ = some (.int .i64 p) := K4.out.cell 0
  have c1 : w4.cell? ⟨w.heap.size, 1, none⟩ = some (.int .i64 m) := K4.out.cell 1
  clear b4
  go_wp2_with fail
  refine (of_any p m _ H.out).mono ?_
  rintro e w5 ⟨rfl, b5⟩
  rw [HK.out]
  have W5 := Lib.hid (W4.out.below b5)
  have B5 := Lib.hid (B4.out.trans (b5.mono B4.out.size))
  clear b5
  go_wp2_with fail
  obtain ⟨g, hg⟩ : ∃ g, g = w5.heap.size := ⟨_, rfl⟩
  have hG := Blk.new w5 34 #[.int .i64 p, .int .i64 m, .int .i64 q, .int .i64 T]
  rw [← hg] at hG
  have hB6 := B5.out.alloc B5.out.size (.cells #[.int .i64 p, .int .i64 m, .int .i64 q, .int .i64 T] 34)
  have hW6 := W5.out.below ((Below.refl _ w5).alloc (Nat.le_refl _) (.cells #[.int .i64 p, .int .i64 m, .int .i64 q, .int .i64 T] 34))
  try rw [← hg]
  clear hg
  change Calls _ _ _ (w5.alloc (.cells #[.int .i64 p, .int .i64 m, .int .i64 q, .int .i64 T] 34)) _
  obtain ⟨w6, hw6⟩ : ∃ w6, w6 = w5.alloc (.cells #[.int .i64 p, .int .i64 m, .int .i64 q, .int .i64 T] 34) := ⟨_, rfl⟩
  rw [← hw6] at hG hB6 hW6 ⊢
  have W6 := Lib.hid hW6
  have B6 := Lib.hid hB6
  have G6 := Lib.hid hG
  clear hw6 hG hB6 hW6
  refine (show Calls _ _ #[.agg #[.int .i64 p, .int .i64 m, .int .i64 q, .int .i64 T], .int .i64 a] _ _ from HK.out ▸ kis_any p m a _ H.out).mono ?_
  rintro e w7 ⟨rfl, b7⟩
  have W7 := Lib.hid (W6.out.below b7)
  have B7 := Lib.hid (B6.out.trans (b7.mono B6.out.size))
  have G7 := Lib.hid (G6.out.below b7)
  clear b7
  rcases HCs.out with ⟨hn, rfl, rfl, rfl, rfl⟩ | ⟨x, rfl, hx, hi, hp⟩
  · rw [decide_eq_false hn]
    clear hn
    go_wp2_with fail
    refine (is_bad 2 0 _ rfl).mono ?_
    rintro e w' ⟨rfl, rfl⟩
    go_wp2_with fail
    refine (is_bad 2 0 _ rfl).mono ?_
    rintro e w' ⟨rfl, rfl⟩
    go_wp2_with fail
    refine (alive_any _ W7.out).mono ?_
    rintro e w9 ⟨rfl, b9⟩
    have B9 := Lib.hid (B7.out.trans (b9.mono B7.out.size))
    clear b9
    go_wp2_with fail
    go_ret
    exact ⟨rfl, B9.out⟩
  · rw [decide_eq_true (show isEl p m (x : Int) from ⟨by omega, by omega⟩)]
    have HX := Lib.hid hx
    have HIX := Lib.hid hi
    have HPX := Lib.hid hp
    have k0 := G7.out.cell 0
    have k1 := G7.out.cell 1
    have k2 := G7.out.cell 2
    have k3 := G7.out.cell 3
    simp at k0 k1 k2 k3
    clear hx hi hp
    rcases HIX.out with ⟨rfl, rfl, rfl⟩ | ⟨hx0, hvi, rfl⟩
    · go_wp2_with fail
      refine (show Calls _ _ #[.agg #[.int .i64 p, .int .i64 m, .int .i64 q, .int .i64 T], .int .i64 0] _ _ from HK.out ▸ kinv_any p m 0 _ H.out HX.out).mono ?_
      rintro e w8 ⟨rfl, b8⟩
      have W8 := Lib.hid (W7.out.below b8)
      have B8 := Lib.hid (B7.out.trans (b8.mono B7.out.size))
      have G8 := Lib.hid (G7.out.below b8)
      obtain ⟨Y, hY⟩ : ∃ Y, Y = pw (fmul p m) 0 (fQ p m - 2) := ⟨_, rfl⟩
      rw [← hY]
      clear b8 k0 k1 k2 k3 hY
      have k0 := G8.out.cell 0
      have k1 := G8.out.cell 1
      have k2 := G8.out.cell 2
      have k3 := G8.out.cell 3
      simp at k0 k1 k2 k3
      go_wp2_with fail
      refine (is_bad 6 Y _ rfl).mono ?_
      rintro e w' ⟨rfl, rfl⟩
      rcases HPX.out with ⟨hk, rfl, rfl⟩ | ⟨n, rfl, hn, hvp, rfl⟩
      · go_wp2_with fail
        refine (is_bad 2 0 _ rfl).mono ?_
        rintro e w' ⟨rfl, rfl⟩
        go_wp2_with fail
        refine (alive_any _ W8.out).mono ?_
        rintro e w9 ⟨rfl, b9⟩
        have B9 := Lib.hid (B8.out.trans (b9.mono B8.out.size))
        clear b9
        go_wp2_with fail
        go_ret
        exact ⟨rfl, B9.out⟩
      · have HVP := Lib.hid hvp
        clear hvp
        go_wp2_with fail
        refine (show Calls _ _ #[.agg #[.int .i64 p, .int .i64 m, .int .i64 q, .int .i64 T], .int .i64 ((0 : Nat) : Int), .int .i64 n] _ _ from HK.out ▸ kpow_any p m 0 n _ H.out HX.out hn).mono ?_
        rintro e w9 ⟨rfl, b9⟩
        rw [← HVP.out]
        have W9 := Lib.hid (W8.out.below b9)
        have B9 := Lib.hid (B8.out.trans (b9.mono B8.out.size))
        clear b9 k0 k1 k2 k3
        go_wp2_with fail
        refine (is_ok vp _).mono ?_
        rintro e w' ⟨rfl, rfl⟩
        go_wp2_with fail
        refine (alive_any _ W9.out).mono ?_
        rintro e w10 ⟨rfl, b10⟩
        have B10 := Lib.hid (B9.out.trans (b10.mono B9.out.size))
        clear b10
        go_wp2_with fail
        go_ret
        exact ⟨rfl, B10.out⟩
    · have D : ((x : Int) == 0) = false := by simp; omega
      have HVI := Lib.hid hvi
      clear hvi hx0
      go_wp2_with fail
      refine (show Calls _ _ #[.agg #[.int .i64 p, .int .i64 m, .int .i64 q, .int .i64 T], .int .i64 x] _ _ from HK.out ▸ kinv_any p m x _ H.out HX.out).mono ?_
      rintro e w8 ⟨rfl, b8⟩
      rw [← HVI.out]
      have W8 := Lib.hid (W7.out.below b8)
      have B8 := Lib.hid (B7.out.trans (b8.mono B7.out.size))
      have G8 := Lib.hid (G7.out.below b8)
      clear b8 k0 k1 k2 k3
      have k0 := G8.out.cell 0
      have k1 := G8.out.cell 1
      have k2 := G8.out.cell 2
      have k3 := G8.out.cell 3
      simp at k0 k1 k2 k3
      go_wp2_with fail
      refine (is_ok vi _).mono ?_
      rintro e w' ⟨rfl, rfl⟩
      rcases HPX.out with ⟨hk, rfl, rfl⟩ | ⟨n, rfl, hn, hvp, rfl⟩
      · go_wp2_with fail
        refine (is_bad 2 0 _ rfl).mono ?_
        rintro e w' ⟨rfl, rfl⟩
        go_wp2_with fail
        refine (alive_any _ W8.out).mono ?_
        rintro e w9 ⟨rfl, b9⟩
        have B9 := Lib.hid (B8.out.trans (b9.mono B8.out.size))
        clear b9
        go_wp2_with fail
        go_ret
        exact ⟨rfl, B9.out⟩
      · have HVP := Lib.hid hvp
        clear hvp
        go_wp2_with fail
        refine (show Calls _ _ #[.agg #[.int .i64 p, .int .i64 m, .int .i64 q, .int .i64 T], .int .i64 x, .int .i64 n] _ _ from HK.out ▸ kpow_any p m x n _ H.out HX.out hn).mono ?_
        rintro e w9 ⟨rfl, b9⟩
        rw [← HVP.out]
        have W9 := Lib.hid (W8.out.below b9)
        have B9 := Lib.hid (B8.out.trans (b9.mono B8.out.size))
        clear b9 k0 k1 k2 k3
        go_wp2_with fail
        refine (is_ok vp _).mono ?_
        rintro e w' ⟨rfl, rfl⟩
        go_wp2_with fail
        refine (alive_any _ W9.out).mono ?_
        rintro e w10 ⟨rfl, b10⟩
        have B10 := Lib.hid (B9.out.trans (b10.mono B9.out.size))
        clear b10
        go_wp2_with fail
        go_ret
        exact ⟨rfl, B10.out⟩

theorem fpow_law (P M a k : Int) (w : World) (hw : Tab w) (hk : k ≤ 9223372036854775807) : Calls Tryd.prog 5 #[.agg #[.int .i64 P, .int .i64 M], .int .i64 a, .int .i64 k] w fun e w' => e = .returned (.bool true) ∧ Below w.heap.size w w' := by
  cases h : validF P M with
  | false => exact fpow_form P M a k w hw h
  | true =>
    obtain ⟨p, m, rfl, rfl, hv⟩ := Vf.of h
    by_cases ha : isEl p m a
    · obtain ⟨ha0, ha1⟩ := ha
      obtain ⟨x, rfl⟩ := Int.eq_ofNat_of_zero_le ha0
      have hx : x < fQ p m := by omega
      have hp : ∃ vp ep : Int, (∀ w, Tab w → Calls Tryd.prog 27 #[.agg #[.int .i64 p, .int .i64 m], .int .i64 x, .int .i64 k] w fun e w' => e = .returned (.tuple #[.int .i64 vp, .int .i64 ep]) ∧ Below w.heap.size w w') ∧ ((k < 0 ∧ vp = 0 ∧ ep = 2) ∨ ∃ n : Nat, k = n ∧ n ≤ 9223372036854775807 ∧ vp = (pw (fmul p m) x n : Nat) ∧ ep = 0) := by
        by_cases hk0 : k < 0
        · exact ⟨0, 2, fun w hw => Power_neg p m x k w hw hv hx hk0, .inl ⟨hk0, rfl, rfl⟩⟩
        · obtain ⟨n, rfl⟩ := Int.eq_ofNat_of_zero_le (show 0 ≤ k by omega)
          exact ⟨_, 0, fun w hw => Power_yes p m x n w hw hv hx (by omega), .inr ⟨n, rfl, by omega, rfl, rfl⟩⟩
      obtain ⟨vp, ep, h1, h2⟩ := hp
      by_cases hx0 : x = 0
      · subst hx0
        exact fpow_valid p m _ k w hw hv 0 6 vp ep (fun w hw => Inverse_zero p m w hw hv) h1 (.inr ⟨0, rfl, hx, .inl ⟨rfl, rfl, rfl⟩, h2⟩)
      · exact fpow_valid p m _ k w hw hv _ 0 vp ep (fun w hw => Inverse_yes p m x w hw hv hx (by omega)) h1 (.inr ⟨x, rfl, hx, .inr ⟨by omega, rfl, rfl⟩, h2⟩)
    · exact fpow_valid p m a k w hw hv 0 2 0 2 (fun w hw => Inverse_arg p m a w hw hv ha) (fun w hw => Power_arg p m a k w hw hv ha) (.inl ⟨ha, rfl, rfl, rfl, rfl⟩)
end Go.Proofs.YtmenkahkdcjkiaaDoor
