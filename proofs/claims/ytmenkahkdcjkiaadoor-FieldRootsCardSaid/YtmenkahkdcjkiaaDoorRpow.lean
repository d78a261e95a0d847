/- The methods Power and Inverse of the reference's kits by their meaning. -/
import Derived.Test.YtmenkahkdcjkiaaDoorProg
import Derived.Test.YtmenkahkdcjkiaaDoorBase
import Derived.Test.YtmenkahkdcjkiaaDoorFops
import Derived.Test.YtmenkahkdcjkiaaDoorRmet
namespace Go.Proofs.YtmenkahkdcjkiaaDoor
open Go.RowKit

set_option maxHeartbeats 2000000 in
theorem kpow_any (p m a0 k0 : Nat) (w : World) (h : Vf p m) (ha : a0 < fQ p m) (hk0 : k0 ≤ 9223372036854775807) : Calls Tryd.prog 29 #[kitV p m, .int .i64 a0, .int .i64 k0] w fun e w' => e = .returned (.int .i64 (pw (fmul p m) a0 k0 : Nat)) ∧ Below w.heap.size w w' := by
  have H := Lib.hid h
  have HA := Lib.hid ha
  obtain ⟨q, hQ⟩ : ∃ q, q = fQ p m := ⟨_, rfl⟩
  obtain ⟨T, hT⟩ : ∃ T, T = modK m := ⟨_, rfl⟩
  have HK := Lib.hid (show kitV p m = .agg #[.int .i64 p, .int .i64 m, .int .i64 q, .int .i64 T] by rw [hQ, hT]; rfl)
  have HG0 := Lib.hid (Blk.new w 34 #[.int .i64 p, .int .i64 m, .int .i64 q, .int .i64 T])
  have HB0 := Lib.hid ((Below.refl _ w).alloc (Nat.le_refl _) (.cells #[.int .i64 p, .int .i64 m, .int .i64 q, .int .i64 T] 34))
  obtain ⟨R, hR⟩ : ∃ R, R = pw (fmul p m) a0 k0 := ⟨_, rfl⟩
  have HR := Lib.hid hR
  rw [HK.out, ← hR]
  clear h ha hQ hT hR
  go_enter Tryd.func29, Tryd.ntmps29
  go_wp2_with fail
  go_loopw [1, 2, 7] (fun av kv cv wr => ∃ x k c : Nat, av = .int .i64 x ∧ kv = .int .i64 k ∧ cv = .int .i64 c ∧ k ≤ k0 ∧ Hid (pfit p m a0 k0 c x k) ∧ Hid (Below w.heap.size w wr) ∧ Hid (Blk wr w.heap.size 34 #[.int .i64 p, .int .i64 m, .int .i64 q, .int .i64 T])) (fun _ kv _ _ => (intOf kv).toNat)
  case atStart => exact ⟨a0, k0, 1, rfl, rfl, rfl, Nat.le_refl _, Lib.hid (pfit_start H.out HA.out), HB0, HG0⟩
  case round =>
    obtain ⟨x, k, c, rfl, rfl, rfl, hk, hf, HB, HG⟩ := hrel
    by_cases h0 : k = 0
    · subst h0
      have HE := Lib.hid (show R = c by rw [HR.out]; exact pfit_end H.out hf.out)
      go_wp2_with fail
      go_ret
      exact ⟨ret_int (by rw [HE.out]), HB.out⟩
    · have h0' : 0 < k := by omega
      have k0 := HG.out.cell 0
      have k1 := HG.out.cell 1
      have k2 := HG.out.cell 2
      have k3 := HG.out.cell 3
      simp at k0 k1 k2 k3
      have hkq : (k : Int) / 2 = ((k / 2 : Nat) : Int) := by omega
      by_cases hbit : k % 2 = 1
      · have HN := Lib.hid (pfit_odd H.out hf.out hbit)
        have D : ((k : Int) % 2 == 1) = true := by simp; omega
        clear hbit hkq
        go_wp2_with fail
        refine (show Calls _ _ #[.agg #[.int .i64 p, .int .i64 m, .int .i64 q, .int .i64 T], .int .i64 c, .int .i64 x] _ _ from HK.out ▸ kmul_any p m c x _ H.out hf.out.1 hf.out.2.1).mono ?_
        rintro e w1 ⟨rfl, b1⟩
        have HB1 := Lib.hid (HB.out.trans (b1.mono HB.out.size))
        have HG1 := Lib.hid (HG.out.below b1)
        obtain ⟨C, hC⟩ : ∃ C, C = fmul p m c x := ⟨_, rfl⟩
        rw [← hC] at HN ⊢
        clear b1 k0 k1 k2 k3 hC
        have k0 := HG1.out.cell 0
        have k1 := HG1.out.cell 1
        have k2 := HG1.out.cell 2
        have k3 := HG1.out.cell 3
        simp at k0 k1 k2 k3
        go_wp2_with fail
        refine (show Calls _ _ #[.agg #[.int .i64 p, .int .i64 m, .int .i64 q, .int .i64 T], .int .i64 x, .int .i64 x] _ _ from HK.out ▸ kmul_any p m x x _ H.out hf.out.2.1 hf.out.2.1).mono ?_
        rintro e w2 ⟨rfl, b2⟩
        have HB2 := Lib.hid (HB1.out.trans (b2.mono HB1.out.size))
        have HG2 := Lib.hid (HG1.out.below b2)
        obtain ⟨X, hX⟩ : ∃ X, X = fmul p m x x := ⟨_, rfl⟩
        rw [← hX] at HN ⊢
        clear b2 hX k0 k1 k2 k3
        go_wp2_with fail
        go_roundw
        case rel => exact ⟨X, k / 2, C, rfl, by go_num, rfl, by omega, HN, HB2, HG2⟩
        case measure => simp [intOf]; omega
      · have HN := Lib.hid (pfit_even H.out hf.out hbit)
        have D : ((k : Int) % 2 == 1) = false := by simp; omega
        clear hbit hkq
        go_wp2_with fail
        refine (show Calls _ _ #[.agg #[.int .i64 p, .int .i64 m, .int .i64 q, .int .i64 T], .int .i64 x, .int .i64 x] _ _ from HK.out ▸ kmul_any p m x x _ H.out hf.out.2.1 hf.out.2.1).mono ?_
        rintro e w2 ⟨rfl, b2⟩
        have HB2 := Lib.hid (HB.out.trans (b2.mono HB.out.size))
        have HG2 := Lib.hid (HG.out.below b2)
        obtain ⟨X, hX⟩ : ∃ X, X = fmul p m x x := ⟨_, rfl⟩
        rw [← hX] at HN ⊢
        clear b2 hX k0 k1 k2 k3
        go_wp2_with fail
        go_roundw
        case rel => exact ⟨X, k / 2, c, rfl, by go_num, rfl, by omega, HN, HB2, HG2⟩
        case measure => simp [intOf]; omega
set_option maxHeartbeats 2000000 in
theorem kinv_any (p m a : Nat) (w : World) (h : Vf p m) (ha : a < fQ p m) : Calls Tryd.prog 28 #[kitV p m, .int .i64 a] w fun e w' => e = .returned (.int .i64 (pw (fmul p m) a (fQ p m - 2) : Nat)) ∧ Below w.heap.size w w' := by
  have hq := h.q
  have H := Lib.hid h
  have HA := Lib.hid ha
  obtain ⟨q, hQ⟩ : ∃ q, q = fQ p m := ⟨_, rfl⟩
  obtain ⟨T, hT⟩ : ∃ T, T = modK m := ⟨_, rfl⟩
  have HK := Lib.hid (show kitV p m = .agg #[.int .i64 p, .int .i64 m, .int .i64 q, .int .i64 T] by rw [hQ, hT]; rfl)
  have HB0 := Lib.hid ((Below.refl _ w).alloc (Nat.le_refl _) (.cells #[.int .i64 p, .int .i64 m, .int .i64 q, .int .i64 T] 34))
  rw [HK.out, ← hQ]
  rw [← hQ] at hq
  have en : (q : Int) - 2 = ((q - 2 : Nat) : Int) := by omega
  clear h ha hQ hT
  go_enter Tryd.func28, Tryd.ntmps28
  go_wp2_with fail
  refine (show Calls _ _ #[.agg #[.int .i64 p, .int .i64 m, .int .i64 q, .int .i64 T], .int .i64 a, .int .i64 (q - 2 : Nat)] _ _ from HK.out ▸ kpow_any p m a (q - 2) _ H.out HA.out (by omega)).mono ?_
  rintro e w1 ⟨rfl, b1⟩
  have HB1 := Lib.hid (HB0.out.trans (b1.mono HB0.out.size))
  clear b1 en
  go_wp2_with fail
  go_ret
  exact ⟨rfl, HB1.out⟩
end Go.Proofs.YtmenkahkdcjkiaaDoor
