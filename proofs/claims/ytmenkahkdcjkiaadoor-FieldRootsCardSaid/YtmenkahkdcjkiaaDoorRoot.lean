/- field.commonDivisor, leastRoot, fieldWithRoot, Root and Sum by their meaning. -/
import Derived.Test.YtmenkahkdcjkiaaDoorProg
import Derived.Test.YtmenkahkdcjkiaaDoorBase
import Derived.Test.YtmenkahkdcjkiaaDoorFops
import Derived.Test.YtmenkahkdcjkiaaDoorGen3
import Derived.Deep.QuietTactic
import Derived.BigQuiet
namespace Go.Proofs.YtmenkahkdcjkiaaDoor
open Go.RowKit

set_option maxHeartbeats 1000000 in
theorem common_any (a0 b0 : Nat) (w : World) (ha : a0 ≤ 65536) (hb : b0 ≤ 65536) : Calls Tryd.prog 46 #[.int .i64 a0, .int .i64 b0] w fun e w' => e = .returned (.int .i64 (Nat.gcd a0 b0 : Nat)) ∧ ∃ n, w' = w.drewN n := by
  go_enter Tryd.func46, Tryd.ntmps46
  go_wp2
  go_loopw [0, 1] (fun av bv wr => ∃ a b nd : Nat, av = .int .i64 a ∧ bv = .int .i64 b ∧ a ≤ 65536 ∧ b ≤ 65536 ∧ Hid (Nat.gcd a b = Nat.gcd a0 b0) ∧ Hid (wr = w.drewN nd)) (fun _ bv _ => (intOf bv).toNat)
  case atStart => exact ⟨a0, b0, 0, rfl, rfl, ha, hb, Lib.hid rfl, Lib.hid rfl⟩
  case round =>
    obtain ⟨a, b, nd, rfl, rfl, ha1, hb1, hg, hwr⟩ := hrel
    by_cases h0 : b = 0
    · subst h0
      have HG := Lib.hid (show Nat.gcd a0 b0 = a by rw [← hg.out, Nat.gcd_zero_right])
      go_wp2
      go_ret
      exact ⟨ret_int (by rw [HG.out]), nd, hwr.out⟩
    · have h0' : 0 < b := by omega
      have hr : (a : Int) % (b : Int) = ((a % b : Nat) : Int) := (Int.natCast_emod a b).symm
      have hlt : a % b < b := Nat.mod_lt _ h0'
      have HN := Lib.hid (show Nat.gcd b (a % b) = Nat.gcd a0 b0 by rw [← hg.out, Nat.gcd_comm a b, Nat.gcd_rec b a, Nat.gcd_comm])
      obtain ⟨r, hr0⟩ : ∃ r, r = a % b := ⟨_, rfl⟩
      rw [← hr0] at hr hlt HN
      clear hr0
      go_wp2
      go_quiet (fail)
      go_wp2
      go_roundw
      case rel => exact ⟨b, r, nd + nq, rfl, by rw [hr], by omega, by omega, HN, Lib.hid (by rw [hwr.out, World.drewN_drewN])⟩
      case measure => simp [intOf, hr]; omega


set_option maxRecDepth 100000 in
set_option maxHeartbeats 2000000 in
theorem least_any (p m k : Nat) (w : World) (hw : Tab w) (h : Vf p m) (hk : 1 ≤ k) (hd : k ∣ fQ p m - 1) : Calls Tryd.prog 44 #[.iface (aTy m) (.int .i64 (aDat p m)), .int .i64 k] w fun e w' => ∃ r : Nat, e = .returned (.int .i64 r) ∧ LR (fQ p m) (fmul p m) k r ∧ Below w.heap.size w w' := by
  have hq := h.q
  have hkq : k ≤ fQ p m - 1 := Nat.le_of_dvd (by omega) hd
  have H := Lib.hid h
  have HW := Lib.hid hw
  have HD := Lib.hid hd
  have m1 := meth_order
  have m2 := call_order
  have m3 := meth_mul
  have m4 := call_mul
  obtain ⟨q, hq0⟩ : ∃ q, q = fQ p m := ⟨_, rfl⟩
  have HQ := Lib.hid hq0
  rw [← hq0] at hq hkq
  clear h hw hd
  go_enter Tryd.func44, Tryd.ntmps44
  go_wp2_with fail
  refine (generator_any p m _ HW.out H.out).mono ?_
  rintro e w1 ⟨g, rfl, hg, hgo, hb⟩
  have HG := Lib.hid hg
  have HGO := Lib.hid hgo
  have HB := Lib.hid hb
  have HW1 := Lib.hid (HW.out.below hb)
  clear hg hgo hb
  go_wp2_with fail
  refine (aorder_any p m _ H.out).mono ?_
  rintro e w' ⟨rfl, rfl⟩
  rw [← hq0]
  clear hq0
  obtain ⟨E, hE⟩ : ∃ E, E = (q - 1) / k := ⟨_, rfl⟩
  have en : ((q : Int) - 1) / (k : Int) = (E : Int) := by rw [hE, Int.natCast_ediv]; congr 1; omega
  have hE2 : E ≤ 65536 := by rw [hE]; exact Nat.le_trans (Nat.div_le_self _ _) (by omega)
  have HE := Lib.hid hE
  clear hE
  go_wp2_with fail
  rw [en]
  refine (power_any p m g E _ HW1.out H.out HG.out (by omega)).mono ?_
  rintro e w' ⟨rfl, rfl⟩
  have HONE := Lib.hid (show Ord (fmul p m) (pw (fmul p m) g E) k by
    rw [HE.out, HQ.out]; exact H.out.fld.ord_gen HG.out HGO.out hk HD.out)
  have HOL := Lib.hid (H.out.fld.pw_lt HG.out E)
  obtain ⟨one, hone⟩ : ∃ one, one = pw (fmul p m) g E := ⟨_, rfl⟩
  rw [← hone] at HONE HOL ⊢
  clear hone en m1 m2
  go_wp2_with fail
  go_loopw [6, 7, 8] (fun lv nv jv wr => ∃ least next j : Nat, lv = .int .i64 least ∧ nv = .int .i64 next ∧ jv = .int .i64 ((j + 1 : Nat) : Int) ∧ 1 ≤ j ∧ (j ≤ k) ∧ next < 65536 ∧ Hid (next < fQ p m) ∧ Hid (lfit (fmul p m) one k j next least) ∧ Hid (Below w.heap.size w wr)) (fun _ _ jv _ => k + 1 - (intOf jv).toNat)
  case atStart => exact ⟨one, one, 1, rfl, rfl, rfl, Nat.le_refl _, hk, by have := HOL.out; rw [← HQ.out] at this; omega, HOL, Lib.hid (H.out.fld.lfit_start HOL.out), HB⟩
  case round =>
    obtain ⟨least, next, j, rfl, rfl, rfl, hj1, hjk, hnq, hnx, hf, hbw⟩ := hrel
    by_cases hlt : j + 1 < k
    · have HT := Lib.hid (HW.out.below hbw.out)
      go_wp2_with fail
      refine (amul_any p m next one _ H.out hnx.out HOL.out HT.out).mono ?_
      rintro e w' ⟨rfl, rfl⟩
      have HM := Lib.hid (H.out.fld.mul_lt next one hnx.out HOL.out)
      have HM2 : fmul p m next one < 65536 := by have := HM.out; rw [← HQ.out] at this; omega
      by_cases hl : fmul p m next one < least
      · have HL := Lib.hid hl
        have HX := Lib.hid (fun hg => lfit_next hf.out hl hg)
        have HY := Lib.hid (fun hg => lfit_skip hf.out hg)
        obtain ⟨X, hX⟩ : ∃ X, X = fmul p m next one := ⟨_, rfl⟩
        rw [← hX] at hl HL HM HM2 HX HY ⊢
        clear hX
        go_wp2_with fail
        refine (common_any (j + 1) k _ (by omega) (by omega)).mono ?_
        rintro e w' ⟨rfl, nd, rfl⟩
        have HBW := Lib.hid (below_drewN' hbw.out nd)
        by_cases hg : Nat.gcd (j + 1) k = 1
        · have HF := Lib.hid (HX.out hg)
          rw [hg]
          clear hg hl
          go_wp2_with fail
          go_roundw
          case rel => exact ⟨X, X, j + 1, rfl, rfl, by go_num, by omega, by omega, HM2, HM, HF, HBW⟩
          case measure => simp [intOf]; omega
        · have HF := Lib.hid (HY.out fun hh => hg hh.2)
          have D : (((Nat.gcd (j + 1) k : Nat) : Int) == 1) = false := by simp; omega
          clear hg hl
          go_wp2_with fail
          go_roundw
          case rel => exact ⟨least, X, j + 1, rfl, rfl, by go_num, by omega, by omega, HM2, HM, HF, HBW⟩
          case measure => simp [intOf]; omega
      · have HF := Lib.hid (lfit_skip hf.out fun hh => hl hh.1)
        obtain ⟨X, hX⟩ : ∃ X, X = fmul p m next one := ⟨_, rfl⟩
        rw [← hX] at hl HM HM2 HF ⊢
        clear hX
        go_wp2_with fail
        go_roundw
        case rel => exact ⟨least, X, j + 1, rfl, rfl, by go_num, by omega, by omega, HM2, HM, HF, hbw⟩
        case measure => simp [intOf]; omega
    · have HE2 := Lib.hid (H.out.fld.lfit_end HOL.out hk HONE.out (by omega) hf.out)
      go_wp2_with fail
      go_ret
      exact ⟨least, rfl, HE2.out, hbw.out⟩
end Go.Proofs.YtmenkahkdcjkiaaDoor
