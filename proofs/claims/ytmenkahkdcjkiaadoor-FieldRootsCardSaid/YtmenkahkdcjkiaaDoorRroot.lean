/- The methods Root and Sum of the reference's kits by their meaning. -/
import Derived.Test.YtmenkahkdcjkiaaDoorProg
import Derived.Test.YtmenkahkdcjkiaaDoorBase
import Derived.Test.YtmenkahkdcjkiaaDoorFops
import Derived.Test.YtmenkahkdcjkiaaDoorRmet
import Derived.Test.YtmenkahkdcjkiaaDoorRpow
import Derived.Test.YtmenkahkdcjkiaaDoorSumL
import Derived.Test.YtmenkahkdcjkiaaDoorRsum
import Derived.Deep.QuietTactic
import Derived.BigQuiet
import Derived.Lib.QuietBelow
namespace Go.Proofs.YtmenkahkdcjkiaaDoor
open Go.RowKit Go.Sort

/-- no element below r has the order n -/
def noBelow (q : Nat) (mul : Nat → Nat → Nat) (n r : Nat) : Prop := ∀ s, s < r → s < q → ¬ Ord mul s n
/-- what the inner loop knows: no divisor of n below i leads r to 1; or r has not the order n -/
def kst (mul : Nat → Nat → Nat) (n r i : Nat) (B : Bool) : Prop := if B then ∀ j, 1 ≤ j → j < i → n % j = 0 → pw mul r j ≠ 1 else ¬ Ord mul r n
theorem Fld.ord_of_all {q : Nat} {add mul : Nat → Nat → Nat} (F : Fld q add mul) {r n : Nat} (hr : r < q) (hn : 1 ≤ n) (h : pw mul r n = 1) (hu : ∀ j, 1 ≤ j → j < n → n % j = 0 → pw mul r j ≠ 1) : Ord mul r n := fun e => by
  constructor
  · intro he
    have hg := F.pw_gcd hr n e h he
    have g1 : Nat.gcd n e ∣ n := Nat.gcd_dvd_left n e
    have g0 : 0 < Nat.gcd n e := Nat.gcd_pos_of_pos_left e (by omega)
    have g2 := Nat.le_of_dvd (by omega) g1
    by_cases hlt : Nat.gcd n e < n
    · exact absurd hg (hu _ g0 hlt (Nat.mod_eq_zero_of_dvd g1))
    · have : Nat.gcd n e = n := by omega
      rw [← this]; exact Nat.gcd_dvd_right n e
  · rintro ⟨c, rfl⟩
    rw [F.pw_mul hr, h, F.one_pw]
theorem Fld.LR_of {q : Nat} {add mul : Nat → Nat → Nat} (F : Fld q add mul) {r n i : Nat} (hr : r < q) (hn : 1 ≤ n) (hi : n ≤ i) (h : pw mul r n = 1) (hk : kst mul n r i true) (hb : noBelow q mul n r) : LR q mul n r := by
  unfold kst at hk
  rw [if_pos rfl] at hk
  refine ⟨hr, F.ord_of_all hr hn h (fun j j1 j2 j3 => hk j j1 (by omega) j3), fun s hs ho => ?_⟩
  by_cases hh : r ≤ s
  · exact hh
  · exact absurd ho (hb s (by omega) hs)
theorem kst_start {mul : Nat → Nat → Nat} {n r : Nat} : kst mul n r 1 true := by
  unfold kst; rw [if_pos rfl]; intro j j1 j2; omega
theorem kst_skip {mul : Nat → Nat → Nat} {n r i : Nat} (h : kst mul n r i true) (hd : n % i ≠ 0) : kst mul n r (i + 1) true := by
  unfold kst at h ⊢
  rw [if_pos rfl] at h ⊢
  intro j j1 j2 j3
  by_cases e : j = i
  · subst e; exact absurd j3 hd
  · exact h j j1 (by omega) j3
theorem kst_next {mul : Nat → Nat → Nat} {n r i : Nat} (h : kst mul n r i true) (hd : pw mul r i ≠ 1) : kst mul n r (i + 1) true := by
  unfold kst at h ⊢
  rw [if_pos rfl] at h ⊢
  intro j j1 j2 j3
  by_cases e : j = i
  · subst e; exact hd
  · exact h j j1 (by omega) j3
theorem kst_fail {mul : Nat → Nat → Nat} {n r i : Nat} (h1 : 1 ≤ i) (h2 : i < n) (hd : pw mul r i = 1) : kst mul n r (i + 1) false := by
  unfold kst
  rw [if_neg (by decide)]
  intro ho
  have := Nat.le_of_dvd h1 ((ho i).1 hd)
  omega
theorem noBelow_next {q : Nat} {mul : Nat → Nat → Nat} {n r : Nat} (h : noBelow q mul n r) (ho : ¬ Ord mul r n) : noBelow q mul n (r + 1) := fun s h1 h2 => by
  by_cases e : s = r
  · subst e; exact ho
  · exact h s (by omega) h2
theorem Fld.noBelow_start {q : Nat} {add mul : Nat → Nat → Nat} (F : Fld q add mul) {n : Nat} (hn : 1 ≤ n) : noBelow q mul n 1 := fun s h1 h2 ho => F.ord_ne h2 hn ho (by omega)
theorem noBelow_lt {q : Nat} {mul : Nat → Nat → Nat} {n r : Nat} (h : noBelow q mul n r) (hr : r ≤ q) (hx : ∃ b, b < q ∧ b ≠ 0 ∧ Ord mul b n) : r < q := by
  obtain ⟨b, hb, _, ho⟩ := hx
  by_cases hh : r < q
  · exact hh
  · exact absurd ho (h b (by omega) hb)
theorem kst_not {mul : Nat → Nat → Nat} {n r i : Nat} (h : kst mul n r i false) : ¬ Ord mul r n := by
  unfold kst at h; rwa [if_neg (by decide)] at h

set_option maxHeartbeats 2000000 in
theorem kroot_none (p m : Nat) (n : Int) (w : World) (h : Vf p m) (hn : n < 1 ∨ ((fQ p m : Int) - 1) % n ≠ 0) : Calls Tryd.prog 32 #[kitV p m, .int .i64 n] w fun e w' => e = .returned (.int .i64 0) ∧ Below w.heap.size w w' := by
  have hq := h.q
  obtain ⟨q, hQ⟩ : ∃ q, q = fQ p m := ⟨_, rfl⟩
  obtain ⟨T, hT⟩ : ∃ T, T = modK m := ⟨_, rfl⟩
  have HK := Lib.hid (show kitV p m = .agg #[.int .i64 p, .int .i64 m, .int .i64 q, .int .i64 T] by rw [hQ, hT]; rfl)
  have HB0 := Lib.hid ((Below.refl _ w).alloc (Nat.le_refl _) (.cells #[.int .i64 p, .int .i64 m, .int .i64 q, .int .i64 T] 34))
  rw [HK.out]
  rw [← hQ] at hq hn
  by_cases hn1 : n < 1
  · clear h hQ hT hn
    go_enter Tryd.func32, Tryd.ntmps32
    go_wp2_with fail
    go_ret
    exact ⟨rfl, HB0.out⟩
  · have D : (((q : Int) - 1) % n != 0) = true := by simp; omega
    have Z : n ≠ 0 := by omega
    clear h hQ hT hn
    go_enter Tryd.func32, Tryd.ntmps32
    go_wp2_with fail
    go_ret
    exact ⟨rfl, HB0.out⟩

set_option maxRecDepth 100000 in
set_option maxHeartbeats 4000000 in
theorem kroot_any (p m n : Nat) (w : World) (h : Vf p m) (hn : 1 ≤ n) (hd : n ∣ fQ p m - 1) : Calls Tryd.prog 32 #[kitV p m, .int .i64 n] w fun e w' => ∃ r : Nat, e = .returned (.int .i64 r) ∧ LR (fQ p m) (fmul p m) n r ∧ Below w.heap.size w w' := by
  have hq := h.q
  have H := Lib.hid h
  have HX := Lib.hid (h.fld.exists_ord n hn hd)
  have hnq : n ≤ fQ p m - 1 := Nat.le_of_dvd (by omega) hd
  have hdm : ((fQ p m : Int) - 1) % (n : Int) = 0 := by
    have e1 : ((fQ p m : Int) - 1) = ((fQ p m - 1 : Nat) : Int) := by omega
    rw [e1, ← Int.natCast_emod, Nat.mod_eq_zero_of_dvd hd]; rfl
  obtain ⟨q, hQ⟩ : ∃ q, q = fQ p m := ⟨_, rfl⟩
  obtain ⟨T, hT⟩ : ∃ T, T = modK m := ⟨_, rfl⟩
  have HK := Lib.hid (show kitV p m = .agg #[.int .i64 p, .int .i64 m, .int .i64 q, .int .i64 T] by rw [hQ, hT]; rfl)
  have HG0 := Lib.hid (Blk.new w 34 #[.int .i64 p, .int .i64 m, .int .i64 q, .int .i64 T])
  have HB0 := Lib.hid ((Below.refl _ w).alloc (Nat.le_refl _) (.cells #[.int .i64 p, .int .i64 m, .int .i64 q, .int .i64 T] 34))
  have HQ := Lib.hid hQ
  rw [HK.out]
  rw [← hQ] at hq hnq hdm
  have D : (((q : Int) - 1) % (n : Int) != 0) = false := by rw [hdm]; rfl
  have HS := Lib.hid (h.fld.noBelow_start hn)
  clear h hQ hT hd hdm
  go_enter Tryd.func32, Tryd.ntmps32
  go_wp2_with fail
  clear D
  go_loopw [5] (fun rv wr => ∃ r : Nat, rv = .int .i64 r ∧ 1 ≤ r ∧ r < q ∧ Hid (noBelow (fQ p m) (fmul p m) n r) ∧ Hid (Below w.heap.size w wr) ∧ Hid (Blk wr w.heap.size 34 #[.int .i64 p, .int .i64 m, .int .i64 q, .int .i64 T])) (fun rv _ => q - (intOf rv).toNat)
  case atStart => exact ⟨1, rfl, Nat.le_refl _, by omega, HS, HB0, HG0⟩
  case round =>
    obtain ⟨r, rfl, hr1, hrq, HN, HB, HG⟩ := hrel
    have HRQ := Lib.hid (show r < fQ p m by rw [← HQ.out]; exact hrq)
    have HNX := Lib.hid (show ¬ Ord (fmul p m) r n → noBelow (fQ p m) (fmul p m) n (r + 1) ∧ r + 1 < q from fun ho => by
      have h1 := noBelow_next HN.out ho
      have h2 := noBelow_lt h1 (by have := HRQ.out; omega) HX.out
      exact ⟨h1, by rw [HQ.out]; exact h2⟩)
    have k0 := HG.out.cell 0
    have k1 := HG.out.cell 1
    have k2 := HG.out.cell 2
    have k3 := HG.out.cell 3
    simp at k0 k1 k2 k3
    go_wp2_with fail
    refine (show Calls _ _ #[.agg #[.int .i64 p, .int .i64 m, .int .i64 q, .int .i64 T], .int .i64 r, .int .i64 n] _ _ from HK.out ▸ kpow_any p m r n _ H.out HRQ.out (by omega)).mono ?_
    rintro e w1 ⟨rfl, b1⟩
    have HB1 := Lib.hid (HB.out.trans (b1.mono HB.out.size))
    have HG1 := Lib.hid (HG.out.below b1)
    clear b1 k0 k1 k2 k3
    obtain ⟨Y, hY⟩ : ∃ Y, Y = pw (fmul p m) r n := ⟨_, rfl⟩
    have HY := Lib.hid hY
    rw [← hY]
    clear hY
    by_cases hy : Y = 1
    · have HP := Lib.hid (show pw (fmul p m) r n = 1 by rw [← HY.out]; exact hy)
      subst hy
      clear HY
      go_wp2_with fail
      obtain ⟨wo, rfl⟩ : ∃ wo : World, wo = wr := ⟨_, rfl⟩
      go_loopw [6, 7] (fun lv iv wr => ∃ (i : Nat) (B : Bool), lv = .bool B ∧ iv = .int .i64 i ∧ 1 ≤ i ∧ i ≤ n ∧ Hid (kst (fmul p m) n r i B) ∧ Hid (Below w.heap.size w wr) ∧ Hid (Blk wr w.heap.size 34 #[.int .i64 p, .int .i64 m, .int .i64 q, .int .i64 T])) (fun _ iv _ => n - (intOf iv).toNat)
      case atStart => exact ⟨1, true, rfl, rfl, Nat.le_refl _, hn, Lib.hid kst_start, HB1, HG1⟩
      case round =>
        obtain ⟨i, B, rfl, rfl, hi1, hin, HC, HB2, HG2⟩ := hrel
        have k0 := HG2.out.cell 0
        have k1 := HG2.out.cell 1
        have k2 := HG2.out.cell 2
        have k3 := HG2.out.cell 3
        simp at k0 k1 k2 k3
        by_cases hlt : i < n
        · cases B with
          | true =>
            have Z : (i : Int) ≠ 0 := by omega
            by_cases hm : n % i = 0
            · have D : ((n : Int) % (i : Int) != 0) = false := by rw [← Int.natCast_emod, hm]; rfl
              clear hm
              go_wp2_with fail
              refine (show Calls _ _ #[.agg #[.int .i64 p, .int .i64 m, .int .i64 q, .int .i64 T], .int .i64 r, .int .i64 i] _ _ from HK.out ▸ kpow_any p m r i _ H.out HRQ.out (by omega)).mono ?_
              rintro e w3 ⟨rfl, b3⟩
              have HB3 := Lib.hid (HB2.out.trans (b3.mono HB2.out.size))
              have HG3 := Lib.hid (HG2.out.below b3)
              clear b3 k0 k1 k2 k3
              obtain ⟨Y, hY⟩ : ∃ Y, Y = pw (fmul p m) r i := ⟨_, rfl⟩
              have HY := Lib.hid hY
              rw [← hY]
              clear hY
              by_cases hy : Y = 1
              · have HC2 := Lib.hid (show kst (fmul p m) n r (i + 1) false from kst_fail hi1 hlt (by rw [← HY.out]; exact hy))
                subst hy
                go_wp2_with fail
                go_roundw
                case rel => exact ⟨i + 1, false, rfl, by go_num, by omega, by omega, HC2, HB3, HG3⟩
                case measure => simp [intOf]; omega
              · have HC2 := Lib.hid (show kst (fmul p m) n r (i + 1) true from kst_next HC.out (by rw [← HY.out]; exact hy))
                have D2 : ((Y : Int) != 1) = true := by simp; omega
                clear hy
                go_wp2_with fail
                go_roundw
                case rel => exact ⟨i + 1, true, rfl, by go_num, by omega, by omega, HC2, HB3, HG3⟩
                case measure => simp [intOf]; omega
            · have D : ((n : Int) % (i : Int) != 0) = true := by rw [← Int.natCast_emod]; simp; omega
              have HC2 := Lib.hid (kst_skip HC.out hm)
              clear hm
              go_wp2_with fail
              go_roundw
              case rel => exact ⟨i + 1, true, rfl, by go_num, by omega, by omega, HC2, HB2, HG2⟩
              case measure => simp [intOf]; omega
          | false =>
            have HF := Lib.hid (HNX.out (kst_not HC.out))
            go_wp2_with fail
            go_roundw
            case rel => exact ⟨r + 1, by go_num, by omega, HF.out.2, Lib.hid HF.out.1, HB2, HG2⟩
            case measure => simp [intOf]; omega
        · cases B with
          | true =>
            have HF := Lib.hid (H.out.fld.LR_of HRQ.out hn (by omega) HP.out HC.out HN.out)
            go_wp2_with fail
            go_ret
            exact ⟨r, rfl, HF.out, HB2.out⟩
          | false =>
            have HF := Lib.hid (HNX.out (kst_not HC.out))
            go_wp2_with fail
            go_roundw
            case rel => exact ⟨r + 1, by go_num, by omega, HF.out.2, Lib.hid HF.out.1, HB2, HG2⟩
            case measure => simp [intOf]; omega
    · have HF := Lib.hid (HNX.out (fun ho => hy (by rw [HY.out]; exact (ho n).2 (Nat.dvd_refl n))))
      have D2 : ((Y : Int) != 1) = true := by simp; omega
      clear hy
      go_wp2_with fail
      go_roundw
      case rel => exact ⟨r + 1, by go_num, by omega, HF.out.2, Lib.hid HF.out.1, HB1, HG1⟩
      case measure => simp [intOf]; omega
set_option maxRecDepth 100000 in
set_option maxHeartbeats 4000000 in
theorem ksum_any (p m n e : Nat) (w : World) (h : Vf p m) (hn : 1 ≤ n) (hd : n ∣ fQ p m - 1) (he : e ≤ 9223372036854775807) : Calls Tryd.prog 33 #[kitV p m, .int .i64 n, .int .i64 e] w fun r w' => r = .returned (.int .i64 (sumF p n e : Nat)) ∧ Below w.heap.size w w' := by
  have hq := h.q
  have H := Lib.hid h
  have HD := Lib.hid hd
  have hnq : n ≤ 65536 := by have := Nat.le_of_dvd (by omega) hd; omega
  obtain ⟨q, hQ⟩ : ∃ q, q = fQ p m := ⟨_, rfl⟩
  obtain ⟨T, hT⟩ : ∃ T, T = modK m := ⟨_, rfl⟩
  have HK := Lib.hid (show kitV p m = .agg #[.int .i64 p, .int .i64 m, .int .i64 q, .int .i64 T] by rw [hQ, hT]; rfl)
  have HG0 := Lib.hid (Blk.new w 34 #[.int .i64 p, .int .i64 m, .int .i64 q, .int .i64 T])
  have HB0 := Lib.hid ((Below.refl _ w).alloc (Nat.le_refl _) (.cells #[.int .i64 p, .int .i64 m, .int .i64 q, .int .i64 T] 34))
  have HZ := Lib.hid (show 0 < fQ p m by omega)
  have H1 := Lib.hid (show 1 < fQ p m by omega)
  rw [HK.out]
  clear h hQ hT hd hq
  go_enter Tryd.func33, Tryd.ntmps33
  go_wp2_with fail
  refine (show Calls _ _ #[.agg #[.int .i64 p, .int .i64 m, .int .i64 q, .int .i64 T], .int .i64 n] _ _ from HK.out ▸ kroot_any p m n _ H.out hn HD.out).mono ?_
  rintro e1 w1 ⟨r, rfl, hlr, b1⟩
  have HB1 := Lib.hid (HB0.out.trans (b1.mono HB0.out.size))
  have HG1 := Lib.hid (HG0.out.below b1)
  have HR := Lib.hid hlr.1
  have HO := Lib.hid hlr.2.1
  clear b1 hlr
  go_wp2_with fail
  go_loopw [8, 9, 10] (fun sv xv jv wr => ∃ (j S X : Nat), jv = .int .i64 j ∧ sv = .int .i64 S ∧ xv = .int .i64 X ∧ j ≤ n ∧ Hid (S = geo p m (pw (fmul p m) r e) j) ∧ Hid (X = pw (fmul p m) r j) ∧ Hid (Below w.heap.size w wr) ∧ Hid (Blk wr w.heap.size 34 #[.int .i64 p, .int .i64 m, .int .i64 q, .int .i64 T])) (fun _ _ jv _ => n - (intOf jv).toNat)
  case atStart => exact ⟨0, 0, 1, rfl, rfl, rfl, Nat.zero_le _, Lib.hid rfl, Lib.hid rfl, HB1, HG1⟩
  case round =>
    obtain ⟨j, S, X, rfl, rfl, rfl, hj, HS, HX, HB, HG⟩ := hrel
    by_cases hlt : j < n
    · have k0 := HG.out.cell 0
      have k1 := HG.out.cell 1
      have k2 := HG.out.cell 2
      have k3 := HG.out.cell 3
      simp at k0 k1 k2 k3
      have LX := Lib.hid (show X < fQ p m by rw [HX.out]; exact H.out.fld.pw_lt HR.out j)
      have LS := Lib.hid (show S < fQ p m by rw [HS.out]; exact geo_lt H.out (H.out.fld.pw_lt HR.out e) j)
      obtain ⟨A, hA⟩ : ∃ A, A = pw (fmul p m) X e := ⟨_, rfl⟩
      have EA := Lib.hid hA.symm
      have LA := Lib.hid (show A < fQ p m by rw [hA]; exact H.out.fld.pw_lt LX.out e)
      have HA := Lib.hid (show A = pw (fmul p m) (pw (fmul p m) r e) j by
        rw [hA, HX.out, ← H.out.fld.pw_mul HR.out, ← H.out.fld.pw_mul HR.out, Nat.mul_comm])
      clear hA
      obtain ⟨S2, hS2⟩ : ∃ S2, S2 = fadd p m S A := ⟨_, rfl⟩
      obtain ⟨X2, hX2⟩ : ∃ X2, X2 = fmul p m X r := ⟨_, rfl⟩
      have ES2 := Lib.hid hS2.symm
      have EX2 := Lib.hid hX2.symm
      have HS2 := Lib.hid (show S2 = geo p m (pw (fmul p m) r e) (j + 1) by rw [hS2, HA.out, HS.out]; rfl)
      have HX2 := Lib.hid (show X2 = pw (fmul p m) r (j + 1) by rw [hX2, HX.out]; rfl)
      clear hS2 hX2
      have r0 := cell_regrown k0
      have r1 := cell_regrown k1
      have r2 := cell_regrown k2
      have r3 := cell_regrown k3
      have cP : ∀ d os, Calls Tryd.prog 29 #[.agg #[.int .i64 p, .int .i64 m, .int .i64 q, .int .i64 T], .int .i64 X, .int .i64 e] (grow (redrawn wr d) os) fun e w'' => e = .returned (.int .i64 A) ∧ ∃ p : Regrown, w'' = grow (redrawn wr p.d) p.os := fun d os => Calls.regrown_of (by have h0 := kpow_any p m X e (grow (redrawn wr d) os) H.out LX.out he; rw [EA.out, HK.out] at h0; exact h0)
      have cA : ∀ d os, Calls Tryd.prog 23 #[.agg #[.int .i64 p, .int .i64 m, .int .i64 q, .int .i64 T], .int .i64 S, .int .i64 A] (grow (redrawn wr d) os) fun e w'' => e = .returned (.int .i64 S2) ∧ ∃ p : Regrown, w'' = grow (redrawn wr p.d) p.os := fun d os => Calls.regrown_of (by have h0 := kadd_any p m S A (grow (redrawn wr d) os) H.out LS.out LA.out; rw [ES2.out, HK.out] at h0; exact h0)
      go_wp2_with fail
      refine wp_region_quiet_below (by kernel_rfl) (by kernel_rfl) ?_
      repeat (go_big_quiet_step (with_reducible first | exact cP _ _ | exact cA _ _))
      refine wpQuiet_nil ?_
      intro _ hw'
      obtain ⟨⟨dq, osq⟩, hw''⟩ := hw'
      subst hw''
      have hbb := below_regrown wr dq osq
      have HB2 := Lib.hid (HB.out.trans (hbb.mono HB.out.size))
      have HG2 := Lib.hid (HG.out.below hbb)
      clear r0 r1 r2 r3 cP cA hbb k0 k1 k2 k3
      generalize grow (redrawn wr dq) osq = w9 at *
      have k0 := HG2.out.cell 0
      have k1 := HG2.out.cell 1
      have k2 := HG2.out.cell 2
      have k3 := HG2.out.cell 3
      simp at k0 k1 k2 k3
      go_wp2_with fail
      refine (show Calls _ _ #[.agg #[.int .i64 p, .int .i64 m, .int .i64 q, .int .i64 T], .int .i64 X, .int .i64 r] _ _ from HK.out ▸ kmul_any p m X r _ H.out LX.out HR.out).mono ?_
      rintro e5 w5 ⟨rfl, b5⟩
      have HB5 := Lib.hid (HB2.out.trans (b5.mono HB2.out.size))
      have HG5 := Lib.hid (HG2.out.below b5)
      rw [EX2.out]
      clear b5 k0 k1 k2 k3
      go_wp2_with fail
      go_roundw
      case rel => exact ⟨j + 1, S2, X2, by go_num, rfl, rfl, by omega, HS2, HX2, HB5, HG5⟩
      case measure => simp [intOf]; omega
    · have hjn : j = n := by omega
      have HE := Lib.hid (show sumF p n e = S from by rw [HS.out, hjn, geo_root H.out HR.out HO.out]; rfl)
      clear hjn
      go_wp2_with fail
      go_ret
      exact ⟨ret_int (by rw [HE.out]), HB.out⟩
end Go.Proofs.YtmenkahkdcjkiaaDoor
