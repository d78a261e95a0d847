/- GroupOwn: no function of group modifies its arguments, and results share no memory. -/
import Derived.Test.YtjnjhfificpbbaaOWN
namespace Go.Proofs.Ytjnjhfificpbbaa
open Go Go.RowKit

set_option maxRecDepth 100000 in
set_option maxHeartbeats 16000000 in
theorem own2_law (v : Value) (gs : List (List Int)) (w : World) (h : InPs w v gs) :
    Calls Try.prog 12 #[v] w fun e w' => e = .returned (.bool true) ∧ Below w.heap.size w w' := by
  have HI := Lib.hid h
  obtain ⟨⟨a, cap, rfl, _⟩, _, _⟩ := h
  obtain ⟨m, hm⟩ : ∃ m, m = gs.length := ⟨_, rfl⟩
  rw [← hm] at HI ⊢
  clear hm
  go_enter Try.func12, Try.ntmps12
  go_wp2_with fail
  refine (closed_any _ gs _ HI.out).mono ?_
  rintro e w1 ⟨hb1, ⟨xa, xl, xc, rfl⟩ | ⟨x, ps, rfl, ho, hc, _⟩⟩
  · have HB1 := Lib.hid hb1
    clear hb1
    go_wp2_with fail
    refine (alive_any _).mono ?_
    rintro e w2 ⟨rfl, hb⟩
    have HB := Lib.hid (HB1.out.trans (hb.mono HB1.out.size))
    clear hb
    go_wp2_with fail
    go_ret
    exact ⟨rfl, HB.out⟩
  · have HB1 := Lib.hid hb1
    have HC := Lib.hid hc
    have HG := Lib.hid hc.2.1
    have HS := Lib.hid ho.sps
    have HK1 := Lib.hid (HI.out.1.below hb1)
    have HFg := Lib.hid hc.1.few2
    have HFp := Lib.hid hc.2.1.few2
    have hl5 : ps.length ≤ 5040 := hc.2.1.1.2.1
    obtain ⟨pa, pc, rfl, _⟩ := ho.sps
    obtain ⟨l, hl⟩ : ∃ l, l = ps.length := ⟨_, rfl⟩
    rw [← hl] at HS hl5 ⊢
    have HL := Lib.hid hl
    clear hb1 hc ho hl
    by_cases h120 : 120 < l
    · go_wp2_with fail
      refine (alive_any _).mono ?_
      rintro e w2 ⟨rfl, hb⟩
      have HB := Lib.hid (HB1.out.trans (hb.mono HB1.out.size))
      clear hb
      go_wp2_with fail
      go_ret
      exact ⟨rfl, HB.out⟩
    · go_wp2_with fail
      refine (copy_any _ gs _ HK1.out HFg.out.one HFg.out.two).mono ?_
      rintro e w2 ⟨x2, rfl, ho2, hb2⟩
      have HB2 := Lib.hid (HB1.out.trans (hb2.mono HB1.out.size))
      have HK2 := Lib.hid (HK1.out.below hb2)
      have HS2 := Lib.hid (HS.out.below hb2)
      have HO2 := Lib.hid ho2.sps
      obtain ⟨ga, gc, rfl⟩ := ho2.form
      clear hb2 ho2
      go_wp2_with fail
      refine (copy_any _ ps _ HS2.out HFp.out.one HFp.out.two).mono ?_
      rintro e w3 ⟨x3, rfl, ho3, hb3⟩
      have HB3 := Lib.hid (HB2.out.trans (hb3.mono HB2.out.size))
      have HK3 := Lib.hid (HK2.out.below hb3)
      have HS3 := Lib.hid (HS2.out.below hb3)
      have HO3 := Lib.hid (HO2.out.below hb3)
      have HL3 := Lib.hid ho3.sps
      obtain ⟨la, lc, rfl⟩ := ho3.form
      clear hb3 ho3 HK2 HS2 HO2 HB2 HK1 HS HB1
      obtain ⟨d, hdf, hds⟩ := der_fix HG.out
      have HFd := Lib.hid hdf
      have HDs := Lib.hid hds
      obtain ⟨T, hT⟩ : ∃ T : List (List (List Int)), T = [ps, d, cenL ps] := ⟨_, rfl⟩
      have HFT := Lib.hid (show ∀ j, Few2 (T.getD j []) from fun j => by rw [hT]; exact few_three HFp.out hdf (cenL_few2 HG.out) j)
      have HT0 := Lib.hid (show T.getD 0 [] = ps by rw [hT]; rfl)
      have HT1 := Lib.hid (show T.getD 1 [] = d by rw [hT]; rfl)
      have HT2 := Lib.hid (show T.getD 2 [] = cenL ps by rw [hT]; rfl)
      obtain ⟨B0, hB0⟩ : ∃ B, B = w3.heap.size := ⟨_, rfl⟩
      have HB0 := Lib.hid hB0
      have HF0 := Lib.hid (show ∃ fs : Array Value, fs.size = 3 ∧ Blk (w3.alloc (.cells #[.slice none 0 0, .slice none 0 0, .slice none 0 0] 54)) B0 54 fs ∧ (0 < 0 → ∀ j, j < 3 → Owp (B0 + 1) (w3.alloc (.cells #[.slice none 0 0, .slice none 0 0, .slice none 0 0] 54)) (fs.getD j undef) (T.getD j [])) from ⟨_, rfl, by rw [hB0]; exact Blk.new _ _ _, fun h => by omega⟩)
      have HW0 := Lib.hid (show Below B0 w3 (w3.alloc (.cells #[.slice none 0 0, .slice none 0 0, .slice none 0 0] 54)) by rw [hB0]; exact (Below.refl _ _).alloc (Nat.le_refl _) _)
      clear hdf hds hT
      go_wp2_with fail
      rw [← hB0]
      generalize w3.alloc (.cells #[.slice none 0 0, .slice none 0 0, .slice none 0 0] 54) = w4 at *
      clear hB0
      go_loopw [8] (fun i wr => ∃ r : Nat, r ≤ 2 ∧ i = .int .i64 r ∧ Hid (Below B0 w3 wr) ∧ Hid (∃ fs : Array Value, fs.size = 3 ∧ Blk wr B0 54 fs ∧ (0 < r → ∀ j, j < 3 → Owp (B0 + 1) wr (fs.getD j undef) (T.getD j [])))) (fun i _ => 2 - (intOf i).toNat)
      case atStart => exact ⟨0, by omega, rfl, HW0, HF0⟩
      case round =>
        clear HW0 HF0
        obtain ⟨r, hr, rfl, HW, HF⟩ := hrel
        obtain ⟨wo, hwo⟩ : ∃ W, W = wr := ⟨_, rfl⟩
        subst hwo
        by_cases hlt : r < 2
        · have HWs := Lib.hid (show B0 ≤ wo.heap.size by have := HW.out.size; have := HB0.out; omega)
          have R0 : Hid (OSt wo.heap.size ((wo.alloc (.cells #[.slice none 0 0, .slice none 0 0, .slice none 0 0] 54)).alloc (.cells #[.slice none 0 0, .slice none 0 0, .slice none 0 0] 54)) T 0 #[.slice none 0 0, .slice none 0 0, .slice none 0 0] ((wo.alloc (.cells #[.slice none 0 0, .slice none 0 0, .slice none 0 0] 54)).alloc (.cells #[.slice none 0 0, .slice none 0 0, .slice none 0 0] 54)) (fun _ => ((wo.alloc (.cells #[.slice none 0 0, .slice none 0 0, .slice none 0 0] 54)).alloc (.cells #[.slice none 0 0, .slice none 0 0, .slice none 0 0] 54)).heap.size)) :=
            Lib.hid (OSt.zero ((Blk.new wo 54 #[.slice none 0 0, .slice none 0 0, .slice none 0 0]).alloc (.cells #[.slice none 0 0, .slice none 0 0, .slice none 0 0] 54)) rfl)
          go_wp2_with fail
          obtain ⟨W1, hW1⟩ : ∃ W, W = ((wo.alloc (.cells #[.slice none 0 0, .slice none 0 0, .slice none 0 0] 54)).alloc (.cells #[.slice none 0 0, .slice none 0 0, .slice none 0 0] 54)) := ⟨_, rfl⟩
          have hs1 : W1.heap.size = wo.heap.size + 2 := by rw [hW1]; simp
          have hw1 : Below wo.heap.size wo W1 := by rw [hW1]; exact ((Below.refl _ wo).alloc (Nat.le_refl _) _).alloc (by simp) _
          have hk1 : Blk W1 (wo.heap.size + 1) 54 #[.slice none 0 0, .slice none 0 0, .slice none 0 0] := by
            rw [hW1]
            have := Blk.new (wo.alloc (.cells #[.slice none 0 0, .slice none 0 0, .slice none 0 0] 54)) 54 #[.slice none 0 0, .slice none 0 0, .slice none 0 0]
            rwa [World.size_alloc] at this
          rw [← hW1] at R0 ⊢
          have HW1 := Lib.hid hw1
          have HK1 := Lib.hid hk1
          have HS1 := Lib.hid hs1
          have HBW := Lib.hid (HW.out.trans (hw1.mono HWs.out))
          clear hW1 hw1 hk1 hs1
          have HR : Hid (∀ n xs W bd, OSt wo.heap.size W1 T n xs W bd → Below B0 w3 W) := Lib.hid fun n xs W bd h => h.read HBW.out (by have := HWs.out; have := HB0.out; omega) (by have := HB0.out; omega)
          have HQ : Hid (∀ W, Below B0 w3 W → Sps W (.slice a m cap) gs ∧ Sps W (.slice pa l pc) ps) := Lib.hid fun W h => by
            have e := HB0.out
            subst e
            exact ⟨HK3.out.below h, HS3.out.below h⟩
          have HLw := Lib.hid (show wo.heap.size < W1.heap.size by have := HS1.out; omega)
          have HC1 := Lib.hid (close_fix HC.out _ _ (HQ.out _ (HR.out _ _ _ _ R0.out)).1)
          go_wp2_with fail
          refine HC1.out.mono ?_
          rintro e W2 ⟨x0, rfl, O, b⟩
          obtain ⟨⟨u, hc⟩, hf⟩ := R0.out.cell b 0 (by decide)
          obtain ⟨y0, z0, rfl⟩ := O.form
          have R := Lib.hid (R0.out.next HLw.out (by decide) (by rw [HT0.out]; exact O) b)
          clear O b R0 HC1
          have HC1 := Lib.hid (HDs.out _ _ (HQ.out _ (HR.out _ _ _ _ R.out)).2)
          go_wp2_with fail
          clear hc hf
          refine HC1.out.mono ?_
          rintro e W3 ⟨x1, rfl, O, b⟩
          obtain ⟨⟨u, hc⟩, hf⟩ := R.out.cell b 1 (by decide)
          obtain ⟨y1, z1, rfl⟩ := O.form
          have R := Lib.hid (R.out.next HLw.out (by decide) (by rw [HT1.out]; exact O) b)
          clear O b HC1
          have HC1 := Lib.hid (cen_fix HG.out _ _ (HQ.out _ (HR.out _ _ _ _ R.out)).2)
          go_wp2_with fail
          clear hc hf
          refine HC1.out.mono ?_
          rintro e W4 ⟨x2, rfl, O, b⟩
          obtain ⟨⟨u, hc⟩, hf⟩ := R.out.cell b 2 (by decide)
          obtain ⟨y2, z2, rfl⟩ := O.form
          have R := Lib.hid (R.out.next HLw.out (by decide) (by rw [HT2.out]; exact O) b)
          clear O b HC1
          have HC1 := Lib.hid (series_lws HG.out _ _ (HQ.out _ (HR.out _ _ _ _ R.out)).2)
          obtain ⟨xs, hxs⟩ : ∃ xs, Hid (∃ bd W, OSt wo.heap.size W1 T 3 xs W bd ∧ W = W4.setCell ⟨wo.heap.size, 2, none⟩ (.slice y2 (cenL ps).length z2)) := ⟨_, Lib.hid ⟨_, _, R.out, rfl⟩⟩
          clear R
          go_wp2_with fail
          clear hc hf
          refine HC1.out.mono ?_
          clear HC1
          obtain ⟨bd, W5, R, hW5⟩ := hxs.out
          rw [← hW5]
          clear hW5 hxs
          have R := Lib.hid R
          rintro e W6 ⟨sx, N1, rfl, hsl, b⟩
          have HX6 := Lib.hid ((HR.out _ _ _ _ R.out).trans (b.mono (by have := (HR.out _ _ _ _ R.out).size; have := HB0.out; omega)))
          have HB6 := Lib.hid b
          have SL := Lib.hid hsl
          obtain ⟨hN1, sa, sc, rfl⟩ := hsl.form
          unfold maxLen at hN1
          clear b hsl
          have HC1 := Lib.hid (classes_lws HG.out _ _ (HQ.out _ HX6.out).2)
          go_wp2_with fail
          refine HC1.out.mono ?_
          clear HC1
          rintro e W7 ⟨cx, N2, rfl, hcl, b⟩
          have HX7 := Lib.hid (HX6.out.trans (b.mono (by have := HX6.out.size; have := HB0.out; omega)))
          have HB7 := Lib.hid b
          have CL := Lib.hid hcl
          obtain ⟨hN2, ca, cc, rfl⟩ := hcl.form
          unfold maxLen at hN2
          clear b hcl
          have hSq := HQ.out _ HX7.out
          obtain ⟨pa1, pc1, e1, hSp⟩ := hSq.2
          have e2 := (Value.slice.inj e1).1
          subst e2
          clear e1
          obtain ⟨pb, po, rfl, hSc⟩ := hSp.resolve_left (fun e => by have := HG.out.1.1; rw [e] at this; simp at this)
          obtain ⟨z0v, hz0c, hz0s⟩ := hSc 0 (by have := HG.out.1.1; omega)
          have HZ0 := Lib.hid hz0s
          have HC1 := Lib.hid (pairs_pws HG.out _ _ _ _ hSq.2 hz0s (HFp.out.two 0 (by have := HG.out.1.1; omega)))
          have hl0 : 0 < l := by have := HG.out.1.1; have := HL.out; omega
          simp only [Nat.add_zero] at hz0c
          obtain ⟨zb, zc, rfl, _⟩ := hz0s
          clear hSq hSp hSc
          go_wp2_with fail
          refine HC1.out.mono ?_
          clear HC1
          rintro e X ⟨px, N3, pc3, rfl, hpw, b⟩
          have HX8 := Lib.hid (HX7.out.trans (b.mono (by have := HX7.out.size; have := HB0.out; omega)))
          obtain ⟨hN3, pxa, pxc, rfl⟩ := hpw.form
          unfold maxLen at hN3
          have hb6 := HB7.out.trans (b.mono HB7.out.size)
          have hb5 := HB6.out.trans (hb6.mono HB6.out.size)
          have XT := Lib.hid (R.out.turns.trans (Turns.of_below hb5))
          have XL := Lib.hid (R.out.l.below hb5)
          have XZ := Lib.hid R.out.size
          have XO := Lib.hid (show ∀ j, j < 3 → Owr (bd j) (bd (j + 1)) X (xs.getD j undef) (T.getD j []) from fun j hj => (R.out.own j hj).turns (Turns.of_below (priv := fun _ => False) hb5) fun _ h => h.elim)
          have SL := Lib.hid (SL.out.turns (Turns.of_below (priv := fun _ => False) hb6) fun _ h => h.elim)
          have CL := Lib.hid (CL.out.turns (Turns.of_below (priv := fun _ => False) b) fun _ h => h.elim)
          have PW := Lib.hid hpw
          have BLo := Lib.hid (show ∀ j, j ≤ 3 → wo.heap.size + 2 ≤ bd j from fun j hj => by have := R.out.lo j hj; have := HS1.out; omega)
          have BUp := Lib.hid (show ∀ j, j < 3 → bd j ≤ bd (j + 1) from R.out.up)
          obtain ⟨e5, he5⟩ : ∃ e, e = W5.heap.size := ⟨_, rfl⟩
          obtain ⟨e6, he6⟩ : ∃ e, e = W6.heap.size := ⟨_, rfl⟩
          obtain ⟨e7, he7⟩ : ∃ e, e = W7.heap.size := ⟨_, rfl⟩
          rw [← he5, ← he6] at SL
          rw [← he6, ← he7] at CL
          rw [← he7] at PW
          obtain ⟨e8, he8⟩ : ∃ e, e = X.heap.size := ⟨_, rfl⟩
          rw [← he8] at PW
          have HE := Lib.hid (show bd 3 ≤ e5 ∧ e5 ≤ e6 ∧ e6 ≤ e7 ∧ e7 ≤ e8 ∧ e8 = X.heap.size from ⟨by rw [he5]; exact R.out.bn, by rw [he5, he6]; exact HB6.out.size, by rw [he6, he7]; exact HB7.out.size, by rw [he7, he8]; exact b.size, he8⟩)
          have HBo := Lib.hid (show B0 ≤ wo.heap.size ∧ (B0 + 1 ≤ wo.heap.size) from ⟨by have := HWs.out; have := HB0.out; omega, by obtain ⟨fs, _, f2, _⟩ := HF.out; exact f2.lt⟩)
          have HKX := Lib.hid (show Blk X (wo.heap.size + 1) 54 #[.slice none 0 0, .slice none 0 0, .slice none 0 0] from HK1.out.turns XT.out (by omega))
          have HFX := Lib.hid (show ∃ fs : Array Value, fs.size = 3 ∧ Blk X B0 54 fs ∧ (0 < r → ∀ j, j < 3 → Owr (B0 + 1) wo.heap.size X (fs.getD j undef) (T.getD j [])) from by
            obtain ⟨fs, f1, f2, f3⟩ := HF.out
            have t1 : Turns (fun b => b = wo.heap.size) wo X := (Turns.of_below HW1.out).trans XT.out
            refine ⟨fs, f1, f2.turns t1 (by have := f2.lt; omega), fun hr0 j hj => (Owr.of (f3 hr0 j hj)).turns t1 fun b hb h => by omega⟩)
          have HE3 := Lib.hid (BLo.out 3 (by omega))
          clear b hpw hb6 hb5 he5 he6 he7 he8 HB6 HB7 HX6 HX7 R HW1 HK1 HF HS1 HBW HR HLw HZ0 XT hz0c HW
          go_wp2_with fail
          go_loopw [17] (fun i wr => ∃ j : Nat, j ≤ 3 ∧ i = .int .i64 j ∧ Hid (∃ ks : Array Value, ks.size = 3 ∧ Blk wr (wo.heap.size + 1) 54 ks ∧ ∀ t, t < j → Owp e8 wr (ks.getD t undef) (T.getD t [])) ∧ Hid (Turns (fun b => b = wo.heap.size + 1) X wr)) (fun i _ => 3 - (intOf i).toNat)
          case atStart => exact ⟨0, by omega, rfl, Lib.hid ⟨_, rfl, HKX.out, fun t ht => by omega⟩, Lib.hid (Turns.refl _ _)⟩
          case round =>
            clear HKX
            obtain ⟨j, hj, rfl, hks, hty⟩ := hrel
            by_cases hj3 : j < 3
            · obtain ⟨ks, kz, hkb, hko⟩ := hks.out
              obtain ⟨z, hz⟩ : ∃ z, z = T.getD j [] := ⟨_, rfl⟩
              have hzf : Few2 z := by rw [hz]; exact HFT.out j
              have hbl := BLo.out j (by omega)
              have hxr := (XO.out j hj3).turns hty.out fun b hb h => by omega
              rw [← hz] at hxr
              have hcl : wr.cell? ⟨wo.heap.size, j, none⟩ = some (xs.getD j undef) := by
                rw [(XL.out.turns hty.out (by omega)).cell j]
                exact arr_get (by have := XZ.out; omega)
              obtain ⟨xa', xc', hxj⟩ := hxr.owp.form
              obtain ⟨zl, hzl⟩ : ∃ n, n = z.length := ⟨_, rfl⟩
              rw [hxj, ← hzl] at hcl
              have HCp := Lib.hid (copy_any _ z wr hxr.owp.sps hzf.one hzf.two)
              rw [hxj, ← hzl] at HCp
              have HXR := Lib.hid (show Owr (bd j) (bd (j + 1)) wr (.slice xa' zl xc') z by rw [hzl, ← hxj]; exact hxr)
              have HKB := Lib.hid hkb
              have HKO := Lib.hid hko
              have KZ := Lib.hid kz
              have HZ := Lib.hid hz
              have HZF := Lib.hid hzf
              have HZL := Lib.hid hzl
              have HCL := Lib.hid hcl
              clear hxr hxj hkb hko hz hzf hzl kz hks hbl
              go_wp2_with fail
              clear hcl
              refine HCp.out.mono ?_
              clear HCp
              rintro e wz ⟨v', rfl, hov, hbz⟩
              obtain ⟨va', vc', rfl⟩ := hov.form
              rw [← HZL.out] at hov ⊢
              have hkz := HKB.out.below hbz
              obtain ⟨uk, huk⟩ : ∃ u, wz.cell? ⟨wo.heap.size + 1, j, none⟩ = some u := ⟨_, by rw [hkz.cell j]; exact arr_get (by have := KZ.out; omega)⟩
              have hfk := hkz.free j
              have hkv := hkz.set j (.slice va' zl vc')
              have htv : Turns (fun b => b = wo.heap.size + 1) wr (wz.setCell ⟨wo.heap.size + 1, j, none⟩ (.slice va' zl vc')) := (Turns.of_below hbz).setCell _ _ _ rfl
              have hwx : e8 ≤ wr.heap.size := by have := HE.out; have := hty.out.size; omega
              have hov : Owp e8 (wz.setCell ⟨wo.heap.size + 1, j, none⟩ (.slice va' zl vc')) (.slice va' zl vc') z :=
                (hov.mono hwx).turns (priv := fun b => b = wo.heap.size + 1) ((Turns.refl _ wz).setCell _ _ _ rfl) (fun b hb hl h => by have := HE.out; have := HE3.out; omega)
              have HTX := Lib.hid (hty.out.trans htv)
              have HNew := Lib.hid (show ∃ ks : Array Value, ks.size = 3 ∧ Blk (wz.setCell ⟨wo.heap.size + 1, j, none⟩ (.slice va' zl vc')) (wo.heap.size + 1) 54 ks ∧ ∀ t, t < j + 1 → Owp e8 (wz.setCell ⟨wo.heap.size + 1, j, none⟩ (.slice va' zl vc')) (ks.getD t undef) (T.getD t []) from by
                refine ⟨_, by simpa using KZ.out, hkv, fun t ht => ?_⟩
                rw [arr_set (by have := KZ.out; omega)]
                by_cases e : t = j
                · rw [if_pos e, e, ← HZ.out]; exact hov
                · rw [if_neg e]
                  exact (HKO.out t (by omega)).turns htv fun b hb hl h => by have := HE.out; have := HE3.out; omega)
              have HXR := Lib.hid (HXR.out.turns htv fun b hb h => by have := BLo.out j (by omega); omega)
              have HCX := Lib.hid (show (wz.setCell ⟨wo.heap.size + 1, j, none⟩ (.slice va' zl vc')).cell? ⟨wo.heap.size, j, none⟩ = some (.slice xa' zl xc') from by
                rw [((XL.out.turns hty.out (by omega)).turns htv (by omega)).cell j, ← (XL.out.turns hty.out (by omega)).cell j]
                exact HCL.out)
              clear hkv htv hov hkz hbz HCL hty HKB HKO
              go_wp2_with fail
              clear huk hfk
              generalize wz.setCell ⟨wo.heap.size + 1, j, none⟩ (.slice va' zl vc') = WV at *
              have HGen : Hid (∀ w8, Below WV.heap.size WV w8 → Hid (∃ ks : Array Value, ks.size = 3 ∧ Blk w8 (wo.heap.size + 1) 54 ks ∧ ∀ t, t < j + 1 → Owp e8 w8 (ks.getD t undef) (T.getD t [])) ∧ Hid (Turns (fun b => b = wo.heap.size + 1) X w8)) := Lib.hid fun w8 h8 => by
                obtain ⟨ks2, n1, n2, n3⟩ := HNew.out
                exact ⟨Lib.hid ⟨ks2, n1, n2.below h8, fun t ht => (n3 t ht).below' h8⟩, Lib.hid (HTX.out.trans (.of_below h8))⟩
              by_cases hr0 : r = 0
              · have HD := Lib.hid hr0
                clear hr0
                refine wp_region_held_all (S := fun w' => Below WV.heap.size WV w') (by kernel_rfl) ?_
                have hS : Below WV.heap.size WV WV.drew := below_drewN' (Below.refl _ _) 1
                refine held_take (i := 0) (v := .int .i64 r) rfl rfl (by kernel_rfl) (by kernel_rfl) (by kernel_rfl) (fun w' h => by go_simp) hS ?_
                refine held_take (i := 1) (v := .bool false) rfl rfl (by kernel_rfl) (by kernel_rfl) (by kernel_rfl) (fun w' h => by go_simp; exact HD.out) hS ?_
                refine held_take (i := 2) (v := .bool false) rfl rfl (by kernel_rfl) (by kernel_rfl) (by kernel_rfl) (fun w' h => by go_simp) hS ?_
                simp [Act.put]
                refine held_skip (i := 3) rfl (by kernel_rfl) (by kernel_rfl) (by kernel_rfl) (by kernel_rfl) hS ?_
                refine held_skip (i := 4) rfl (by kernel_rfl) (by kernel_rfl) (by kernel_rfl) (by kernel_rfl) hS ?_
                refine held_skip (i := 5) rfl (by kernel_rfl) (by kernel_rfl) (by kernel_rfl) (by kernel_rfl) hS ?_
                refine held_skip (i := 6) rfl (by kernel_rfl) (by kernel_rfl) (by kernel_rfl) (by kernel_rfl) hS ?_
                refine held_skip (i := 7) rfl (by kernel_rfl) (by kernel_rfl) (by kernel_rfl) (by kernel_rfl) hS ?_
                refine held_skip (i := 8) rfl (by kernel_rfl) (by kernel_rfl) (by kernel_rfl) (by kernel_rfl) hS ?_
                refine held_skip (i := 9) rfl (by kernel_rfl) (by kernel_rfl) (by kernel_rfl) (by kernel_rfl) hS ?_
                refine held_skip (i := 10) rfl (by kernel_rfl) (by kernel_rfl) (by kernel_rfl) (by kernel_rfl) hS ?_
                simp [Act.put]
                refine held_take (i := 11) (v := .bool false) rfl rfl (by kernel_rfl) (by kernel_rfl) (by kernel_rfl) (fun w' h => by go_simp) hS ?_
                refine held_done (by kernel_rfl) ?_
                obtain ⟨g1, g2⟩ := HGen.out _ hS
                clear hS
                simp [Act.put]
                go_wp2_with fail
                go_roundw
                case rel =>
                  refine ⟨j + 1, ?_, ?_, g1, g2⟩
                  · omega
                  · go_num
                case measure =>
                  simp [intOf]; omega
              · have HD := Lib.hid (show 0 < r by omega)
                obtain ⟨fs, f1, f2, f3⟩ := HFX.out
                have fj := (f3 HD.out j hj3).turns HTX.out fun b hb h => by omega
                rw [← HZ.out] at fj
                have hcf : WV.cell? ⟨B0, j, none⟩ = some (fs.getD j undef) := by
                  rw [(f2.turns HTX.out (by have := HBo.out; omega)).cell j]
                  exact arr_get (by omega)
                obtain ⟨fa, fc, hff⟩ := fj.owp.form
                rw [hff, ← HZL.out] at hcf
                have HFS := Lib.hid (show Sps WV (.slice fa zl fc) z by rw [HZL.out, ← hff]; exact fj.owp.sps)
                have HXS := Lib.hid HXR.out.owp.sps
                have hcx := HCX.out
                have HA := Lib.hid (show ∀ w', Below WV.heap.size WV w' → w'.cell? ⟨wo.heap.size, j, none⟩ = some (.slice xa' zl xc') from fun w' h => (h.cell (p := ⟨wo.heap.size, j, none⟩) (World.block_lt_of_cell? WV _ hcx)).trans hcx)
                have HBb := Lib.hid (show ∀ w', Below WV.heap.size WV w' → w'.cell? ⟨B0, j, none⟩ = some (.slice fa zl fc) from fun w' h => (h.cell (p := ⟨B0, j, none⟩) (World.block_lt_of_cell? WV _ hcf)).trans hcf)
                clear f1 f2 f3 fj hcf hff hcx
                clear hr0
                refine wp_region_held_all (S := fun w' => Below WV.heap.size WV w') (by kernel_rfl) ?_
                have hS : Below WV.heap.size WV WV.drew := below_drewN' (Below.refl _ _) 1
                refine held_take (i := 0) (v := .int .i64 r) rfl rfl (by kernel_rfl) (by kernel_rfl) (by kernel_rfl) (fun w' h => by go_simp) hS ?_
                refine held_take (i := 1) (v := .bool true) rfl rfl (by kernel_rfl) (by kernel_rfl) (by kernel_rfl) (fun w' h => by go_simp; exact HD.out) hS ?_
                refine held_take (i := 2) (v := .bool true) rfl rfl (by kernel_rfl) (by kernel_rfl) (by kernel_rfl) (fun w' h => by go_simp) hS ?_
                simp [Act.put]
                refine held_take_w (i := 3) (v := .int .i64 j) rfl (by kernel_rfl) (by kernel_rfl) (by kernel_rfl) (by kernel_rfl) (fun w' h => by go_simp) hS ?_
                refine held_take_w (i := 4) (v := .pointer (some ⟨wo.heap.size, j, none⟩)) rfl (by kernel_rfl) (by kernel_rfl) (by kernel_rfl) (by kernel_rfl) (fun w' h => by go_simp) hS ?_
                refine held_take_w (i := 5) (v := (.slice xa' zl xc')) rfl (by kernel_rfl) (by kernel_rfl) (by kernel_rfl) (by kernel_rfl) (fun w' h => by have h1 := HA.out w' h; go_simp) hS ?_
                simp [Act.put]
                refine held_take_w (i := 6) (v := .int .i64 j) rfl (by kernel_rfl) (by kernel_rfl) (by kernel_rfl) (by kernel_rfl) (fun w' h => by go_simp) hS ?_
                refine held_take_w (i := 7) (v := .pointer (some ⟨B0, j, none⟩)) rfl (by kernel_rfl) (by kernel_rfl) (by kernel_rfl) (by kernel_rfl) (fun w' h => by go_simp) hS ?_
                refine held_take_w (i := 8) (v := (.slice fa zl fc)) rfl (by kernel_rfl) (by kernel_rfl) (by kernel_rfl) (by kernel_rfl) (fun w' h => by have h1 := HBb.out w' h; go_simp) hS ?_
                simp [Act.put]
                refine held_only_w (i := 9) rfl (by kernel_rfl) (by kernel_rfl) (wp_call_any 18 Try.func18 (by kernel_rfl) rfl _ _ rfl #[.slice xa' zl xc', .slice fa zl fc] rfl ((refSame_yes _ _ z WV.drew (HXS.out.below hS) (HFS.out.below hS) HZF.out).mono ?_))
                rintro e w9 ⟨rfl, hb9⟩
                have hS9 : Below WV.heap.size WV w9 := hS.trans (hb9.mono hS.size)
                refine ⟨_, rfl, hS9, ?_⟩
                simp [Act.put]
                refine held_take_w (i := 10) (v := .bool false) rfl (by kernel_rfl) (by kernel_rfl) (by kernel_rfl) (by kernel_rfl) (fun w' h => by go_simp) hS9 ?_
                refine held_take (i := 11) (v := .bool false) rfl rfl (by kernel_rfl) (by kernel_rfl) (by kernel_rfl) (fun w' h => by go_simp) hS9 ?_
                refine held_done (by kernel_rfl) ?_
                obtain ⟨g1, g2⟩ := HGen.out _ hS9
                clear hS hS9 hb9
                simp [Act.put]
                go_wp2_with fail
                go_roundw
                case rel => exact ⟨j + 1, by omega, by go_num, g1, g2⟩
                case measure =>
                  simp [intOf]; omega
            · --M8
              obtain rfl : j = 3 := by omega
              obtain ⟨ks, kz, hkb, hko⟩ := hks.out
              obtain ⟨fs, f1, f2, f3⟩ := HFX.out
              have be := HBo.out
              have e3 := HE3.out
              have ee := HE.out
              have hfw : Blk wr B0 54 fs := f2.turns hty.out (by omega)
              have hone := all_slices3 kz hko
              have hi1 : (Try.prog.info? 54).map (·.size) = some ks.size := by rw [kz]; exact infoThree
              have hi2 : (Try.prog.info? 54).map (·.size) = some fs.size := by rw [f1]; exact infoThree
              have t2 : Turns (fun b => b = B0) wr (wr.setRow B0 ks) := (Turns.refl _ _).setRow _ _ rfl
              have tx : Turns (fun b => b = wo.heap.size + 1 ∨ b = B0) X (wr.setRow B0 ks) := (hty.out.mono fun _ h => .inl h).trans (t2.mono fun _ h => .inr h)
              have KB := Lib.hid (hkb.turns t2 (by omega))
              have FB := Lib.hid (hfw.setRow ks)
              have KO := Lib.hid (show ∀ t, t < 3 → Owp e8 (wr.setRow B0 ks) (ks.getD t undef) (T.getD t []) from fun t ht => (hko t ht).turns t2 fun b hb hl h => by omega)
              have XLn := Lib.hid (XL.out.turns tx (by omega))
              have XOn := Lib.hid (show ∀ j, j < 3 → Owr (bd j) (bd (j + 1)) (wr.setRow B0 ks) (xs.getD j undef) (T.getD j []) from fun j hj => (XO.out j hj).turns tx fun b hb h => by have := BLo.out j (by omega); omega)
              have SLn := Lib.hid (SL.out.turns tx fun b hb h => by omega)
              have CLn := Lib.hid (CL.out.turns tx fun b hb h => by omega)
              have PWn := Lib.hid (PW.out.turns tx fun b hb h => by omega)
              have HBY := Lib.hid (below_turns HX8.out tx (fun b hb h => by omega) (by have := HB0.out; omega))
              have HSz := Lib.hid (show e8 ≤ (wr.setRow B0 ks).heap.size by have := tx.size; omega)
              have KZ := Lib.hid kz
              have HKb := Lib.hid hkb
              have HFw := Lib.hid hfw
              have HOne := Lib.hid hone
              have HI1 := Lib.hid hi1
              have HF1 := Lib.hid (show ks.size = fs.size by rw [kz, f1])
              clear f1 f2 f3 hkb hko hks kz be e3 ee hfw hone hi1 hi2 t2 tx XL XO SL CL PW HX8 HFX hty
              go_wp2_with (first | (refine wpList_load_row rfl 54 _ rfl (wo.heap.size + 1) rfl 54 ks (0, 0) _ HKb.out Try.underlying54 rfl HI1.out ?_) | (refine wpList_store_row rfl 54 _ _ rfl B0 ks rfl rfl 54 fs HFw.out HI1.out (by rw [HF1.out]) HOne.out ?_))
              generalize wr.setRow B0 ks = Y0 at *
              clear HKb HFw HOne HI1 HF1
              go_loopw [18] (fun i wr => ∃ k : Nat, k ≤ N1 ∧ i = .int .i64 k ∧ Hid (Lws e5 e6 wr (.slice sa N1 sc) N1) ∧ Hid (SpK e5 e6 Y0 wr)) (fun i _ => N1 - (intOf i).toNat)
              case atStart => exact ⟨0, Nat.zero_le _, rfl, SLn, Lib.hid (SpK.refl _ _ _)⟩
              case round =>
                clear SLn
                obtain ⟨k, hk, rfl, HLw, HSp⟩ := hrel
                by_cases hkn : k < N1
                · obtain ⟨g, y, n, yc, rfl, hcy, hpy⟩ := HLw.out.at hkn
                  have HCl := Lib.hid (spoil2_any e5 e6 _ n wr hpy (by have := HE.out; have := HSp.out.ts.size; have := HSz.out; omega))
                  clear hpy
                  go_wp2_with fail
                  refine HCl.out.mono ?_
                  rintro e w2 ⟨rfl, hs⟩
                  have H1 := Lib.hid (HLw.out.keeps hs)
                  have H2 := Lib.hid (HSp.out.trans hs)
                  clear hs hcy HCl HLw HSp
                  go_wp2_with fail
                  go_roundw
                  case rel => exact ⟨k + 1, by omega, by go_num, H1, H2⟩
                  case measure => simp [intOf]; omega
                · --M11
                  have HT3 := Lib.hid (HSp.out.ts.mono (q := fun b => e5 ≤ b ∧ b < e8) fun b hb => by have := HE.out; omega)
                  have CL1 := Lib.hid (CLn.out.turns HSp.out.ts fun b hb h => by omega)
                  have PW1 := Lib.hid (PWn.out.turns HSp.out.ts fun b hb h => by have := HE.out; omega)
                  clear HSp HLw CLn PWn
                  go_wp2_with fail
                  obtain ⟨Y1, hY1⟩ : ∃ W, W = wr := ⟨_, rfl⟩
                  subst hY1
                  go_loopw [19] (fun i wr => ∃ k : Nat, k ≤ N2 ∧ i = .int .i64 k ∧ Hid (Lws e6 e7 wr (.slice ca N2 cc) N2) ∧ Hid (SpK e6 e7 Y1 wr)) (fun i _ => N2 - (intOf i).toNat)
                  case atStart => exact ⟨0, Nat.zero_le _, rfl, CL1, Lib.hid (SpK.refl _ _ _)⟩
                  case round =>
                    clear CL1
                    obtain ⟨k, hk, rfl, HLw, HSp⟩ := hrel
                    by_cases hkn : k < N2
                    · obtain ⟨g, y, n, yc, rfl, hcy, hpy⟩ := HLw.out.at hkn
                      have HCl := Lib.hid (spoil2_any e6 e7 _ n wr hpy (by have := HE.out; have := HSp.out.ts.size; have := HSz.out; have := HT3.out.size; omega))
                      clear hpy
                      go_wp2_with fail
                      refine HCl.out.mono ?_
                      rintro e w2 ⟨rfl, hs⟩
                      have H1 := Lib.hid (HLw.out.keeps hs)
                      have H2 := Lib.hid (HSp.out.trans hs)
                      clear hs hcy HCl HLw HSp
                      go_wp2_with fail
                      go_roundw
                      case rel => exact ⟨k + 1, by omega, by go_num, H1, H2⟩
                      case measure => simp [intOf]; omega
                    · have HT4 := Lib.hid (HT3.out.trans (HSp.out.ts.mono (q := fun b => e5 ≤ b ∧ b < e8) fun b hb => by have := HE.out; omega))
                      have PW2 := Lib.hid (PW1.out.turns HSp.out.ts fun b hb h => by omega)
                      clear HSp HLw PW1 HT3
                      go_wp2_with fail
                      obtain ⟨Y2, hY2⟩ : ∃ W, W = wr := ⟨_, rfl⟩
                      subst hY2
                      go_loopw [20] (fun i wr => ∃ k : Nat, k ≤ N3 ∧ i = .int .i64 k ∧ Hid (Pws e7 e8 wr (.slice pxa N3 pxc) N3) ∧ Hid (SpK e7 e8 Y2 wr)) (fun i _ => N3 - (intOf i).toNat)
                      case atStart => exact ⟨0, Nat.zero_le _, rfl, PW2, Lib.hid (SpK.refl _ _ _)⟩
                      case round =>
                        clear PW2
                        obtain ⟨k, hk, rfl, HPw, HSp⟩ := hrel
                        by_cases hkn : k < N3
                        · obtain ⟨g, y, n, yc, rfl, hcy, hn6, hry⟩ := HPw.out.at (j := k * 2) (by omega)
                          have HRY := Lib.hid hry
                          have HCl := Lib.hid (spoil_any e7 e8 _ n wr hry hn6 (by have := HE.out; have := HSp.out.ts.size; have := HSz.out; have := HT4.out.size; omega))
                          clear hry
                          go_wp2_with fail
                          refine HCl.out.mono ?_
                          rintro e w2 ⟨rfl, k2, t2⟩
                          have hs := SpK.row HRY.out k2 t2
                          have H1 := Lib.hid (HPw.out.keeps hs)
                          have H2 := Lib.hid (HSp.out.trans hs)
                          clear hs hcy HCl HPw HSp HRY k2 t2
                          obtain ⟨g2, y2, n2, yc2, eg, hcy, hn6b, hry⟩ := H1.out.at (j := k * 2 + 1) (by omega)
                          cases eg
                          have HRY := Lib.hid hry
                          have HCl := Lib.hid (spoil_any e7 e8 _ n2 w2 hry hn6b (by have := HE.out; have := H2.out.ts.size; have := HSz.out; have := HT4.out.size; omega))
                          clear hry
                          go_wp2_with fail
                          refine HCl.out.mono ?_
                          rintro e w3' ⟨rfl, k2, t2⟩
                          have hs := SpK.row HRY.out k2 t2
                          have H3 := Lib.hid (H1.out.keeps hs)
                          have H4 := Lib.hid (H2.out.trans hs)
                          clear hs hcy HCl H1 H2 HRY k2 t2 hn6 hn6b
                          go_wp2_with fail
                          go_roundw
                          case rel => exact ⟨k + 1, by omega, by go_num, H3, H4⟩
                          case measure => simp [intOf]; omega
                        · have HT5 := Lib.hid (HT4.out.trans (HSp.out.ts.mono (q := fun b => e5 ≤ b ∧ b < e8) fun b hb => by have := HE.out; omega))
                          clear HSp HPw HT4
                          go_wp2_with fail
                          obtain ⟨Y3, hY3⟩ : ∃ W, W = wr := ⟨_, rfl⟩
                          subst hY3
                          have hXO := XOn.out
                          have hbu := BUp.out
                          have hbd : bd 0 ≤ bd 1 ∧ bd 1 ≤ bd 2 ∧ bd 2 ≤ bd 3 ∧ bd 3 ≤ e5 ∧ e5 ≤ e8 ∧ wo.heap.size + 2 ≤ bd 0 := ⟨hbu 0 (by decide), hbu 1 (by decide), hbu 2 (by decide), HE.out.1, by have := HE.out; omega, BLo.out 0 (by omega)⟩
                          have hbj : ∀ j, j ≤ 3 → bd 0 ≤ bd j ∧ bd j ≤ bd 3 := fun j hj => by
                            rcases (show j = 0 ∨ j = 1 ∨ j = 2 ∨ j = 3 by omega) with rfl | rfl | rfl | rfl <;> omega
                          have HBD := Lib.hid hbd
                          have HBJ := Lib.hid hbj
                          have XOm := Lib.hid (show ∀ j, j < 3 → Owr (bd j) (bd (j + 1)) Y3 (xs.getD j undef) (T.getD j []) from fun j hj => (hXO j hj).turns HT5.out fun b hb h => by have := (hbj (j + 1) (by omega)).2; omega)
                          have XLm := Lib.hid (XLn.out.turns HT5.out (by omega))
                          have KBm := Lib.hid (KB.out.turns HT5.out (by omega))
                          have FBm := Lib.hid (FB.out.turns HT5.out (by have := HBo.out; omega))
                          have KOm := Lib.hid (show ∀ t, t < 3 → Owp e8 Y3 (ks.getD t undef) (T.getD t []) from fun t ht => (KO.out t ht).turns HT5.out fun b hb hl h => by omega)
                          have HBY3 := Lib.hid (below_turns HBY.out HT5.out (fun b hb h => by have := HBo.out; omega) (by have := HB0.out; omega))
                          have HSz3 := Lib.hid (show e8 ≤ Y3.heap.size by have := HT5.out.size; have := HSz.out; omega)
                          clear hXO hbu hbd hbj XOn XLn KB FB KO HBY HSz HT5
                          go_loopw [21] (fun i w' => ∃ j : Nat, j ≤ 3 ∧ i = .int .i64 j ∧ Hid (Turns (fun b => bd 0 ≤ b ∧ b < bd j) Y3 w')) (fun i _ => 3 - (intOf i).toNat)
                          case atStart => exact ⟨0, by omega, rfl, Lib.hid (Turns.refl _ _)⟩
                          case round =>
                            clear HE
                            obtain ⟨j, hj, rfl, ht⟩ := hrel
                            by_cases hj3 : j < 3
                            · obtain ⟨z, hz⟩ : ∃ z, z = T.getD j [] := ⟨_, rfl⟩
                              have HZF := Lib.hid (show Few2 z by rw [hz]; exact HFT.out j)
                              have hbd := HBD.out
                              have b1 := HBJ.out j (by omega)
                              have b2 := HBJ.out (j + 1) (by omega)
                              have hxr := (XOm.out j hj3).turns ht.out fun b hb h => by omega
                              have hkr := (KOm.out j hj3).turns ht.out fun b hb hl h => by omega
                              rw [← hz] at hxr hkr
                              have hcx : wr.cell? ⟨wo.heap.size, j, none⟩ = some (xs.getD j undef) := by
                                rw [(XLm.out.turns ht.out (by omega)).cell j]
                                exact arr_get (by have := XZ.out; omega)
                              have hck : wr.cell? ⟨wo.heap.size + 1, j, none⟩ = some (ks.getD j undef) := by
                                rw [(KBm.out.turns ht.out (by omega)).cell j]
                                exact arr_get (by have := KZ.out; omega)
                              obtain ⟨zl, hzl⟩ : ∃ n, n = z.length := ⟨_, rfl⟩
                              obtain ⟨xa', xc', hxj⟩ := hxr.owp.form
                              obtain ⟨ka', kc', hkj⟩ := hkr.form
                              rw [hxj, ← hzl] at hcx
                              rw [hkj, ← hzl] at hck
                              have HX := Lib.hid (show Owr (bd j) (bd (j + 1)) wr (.slice xa' zl xc') z by rw [hzl, ← hxj]; exact hxr)
                              have HK := Lib.hid (show Owp e8 wr (.slice ka' zl kc') z by rw [hzl, ← hkj]; exact hkr)
                              have HZL := Lib.hid hzl
                              have HA := Lib.hid (show ∀ w', Below wr.heap.size wr w' → w'.cell? ⟨wo.heap.size, j, none⟩ = some (.slice xa' zl xc') from fun w' h => (h.cell (p := ⟨wo.heap.size, j, none⟩) (World.block_lt_of_cell? wr _ hcx)).trans hcx)
                              have HBb := Lib.hid (show ∀ w', Below wr.heap.size wr w' → w'.cell? ⟨wo.heap.size + 1, j, none⟩ = some (.slice ka' zl kc') from fun w' h => (h.cell (p := ⟨wo.heap.size + 1, j, none⟩) (World.block_lt_of_cell? wr _ hck)).trans hck)
                              clear hz hbd b1 b2 hxr hkr hcx hck hzl hxj hkj
                              go_wp2_with fail
                              refine wp_region_held_all (S := fun w' => Below wr.heap.size wr w') (by kernel_rfl) ?_
                              have hS : Below wr.heap.size wr wr.drew := below_drewN' (Below.refl _ _) 1
                              refine held_take (i := 0) (v := .int .i64 j) rfl rfl (by kernel_rfl) (by kernel_rfl) (by kernel_rfl) (fun w' h => by go_simp) hS ?_
                              refine held_take (i := 1) (v := .pointer (some ⟨wo.heap.size, j, none⟩)) rfl rfl (by kernel_rfl) (by kernel_rfl) (by kernel_rfl) (fun w' h => by go_simp) hS ?_
                              refine held_take (i := 2) (v := (.slice xa' zl xc')) rfl rfl (by kernel_rfl) (by kernel_rfl) (by kernel_rfl) (fun w' h => by have h1 := HA.out w' h; go_simp) hS ?_
                              simp [Act.put]
                              refine held_take (i := 3) (v := .int .i64 j) rfl rfl (by kernel_rfl) (by kernel_rfl) (by kernel_rfl) (fun w' h => by go_simp) hS ?_
                              refine held_take (i := 4) (v := .pointer (some ⟨wo.heap.size + 1, j, none⟩)) rfl rfl (by kernel_rfl) (by kernel_rfl) (by kernel_rfl) (fun w' h => by go_simp) hS ?_
                              refine held_take (i := 5) (v := (.slice ka' zl kc')) rfl rfl (by kernel_rfl) (by kernel_rfl) (by kernel_rfl) (fun w' h => by have h1 := HBb.out w' h; go_simp) hS ?_
                              simp [Act.put]
                              refine held_only (i := 6) rfl rfl (by kernel_rfl) (wp_call_any 18 Try.func18 (by kernel_rfl) rfl _ _ rfl #[.slice xa' zl xc', .slice ka' zl kc'] rfl ((refSame_yes _ _ z wr.drew (HX.out.owp.sps.below hS) (HK.out.sps.below hS) HZF.out).mono ?_))
                              rintro e w9 ⟨rfl, hb9⟩
                              have hS9 : Below wr.heap.size wr w9 := hS.trans (hb9.mono hS.size)
                              refine ⟨_, rfl, hS9, ?_⟩
                              simp [Act.put]
                              refine held_take (i := 7) (v := .bool false) rfl rfl (by kernel_rfl) (by kernel_rfl) (by kernel_rfl) (fun w' h => by go_simp) hS9 ?_
                              refine held_done (by kernel_rfl) ?_
                              have HS9 := Lib.hid hS9
                              have hcx := HA.out _ hS9
                              have HX9 := Lib.hid (HX.out.turns (Turns.of_below (priv := fun _ => False) hS9) fun _ h => h.elim)
                              have HPw := Lib.hid (show Pw (bd j) (bd (j + 1)) w9 (.slice xa' zl xc') zl from by
                                have := HX9.out.pw HZF.out.two
                                rwa [← HZL.out] at this)
                              have HCl := Lib.hid (spoil2_any (bd j) (bd (j + 1)) (.slice xa' zl xc') zl w9 HPw.out (by have := HBJ.out j (by omega); have := HBD.out; have := HSz3.out; have := ht.out.size; have := hS9.size; omega))
                              clear hS hS9 hb9
                              simp [Act.put]
                              go_wp2_with fail
                              refine HCl.out.mono ?_
                              rintro e w10 ⟨rfl, hs⟩
                              have HN := Lib.hid (show Turns (fun b => bd 0 ≤ b ∧ b < bd (j + 1)) Y3 w10 from ((ht.out.mono fun b h => by have := HBJ.out j (by omega); have := BUp.out j hj3; omega).trans (Turns.of_below HS9.out)).trans (hs.ts.mono fun b h => by have := HBJ.out j (by omega); omega))
                              clear hs hcx HCl HS9 HX9 HA HBb HX HK
                              go_wp2_with fail
                              go_roundw
                              case rel => exact ⟨j + 1, by omega, by go_num, HN⟩
                              case measure => simp [intOf]; omega
                            · obtain rfl : j = 3 := by omega
                              have HBW := Lib.hid (below_turns HBY3.out ht.out (fun b hb h => by have := HBD.out; have := HBo.out; omega) (by have := HB0.out; omega))
                              have HFn := Lib.hid (show ∃ fs : Array Value, fs.size = 3 ∧ Blk wr B0 54 fs ∧ (0 < r + 1 → ∀ j, j < 3 → Owp (B0 + 1) wr (fs.getD j undef) (T.getD j [])) from ⟨ks, KZ.out, FBm.out.turns ht.out (by have := HBD.out; have := HBo.out; omega), fun _ j hj => ((KOm.out j hj).turns ht.out fun b hb hl h => by have := HBD.out; omega).mono (by have := HBD.out; have := HBo.out; omega)⟩)
                              have HSa := Lib.hid (show ∀ W, Below B0 w3 W → Calls Try.prog 18 #[.slice a m cap, .slice ga gs.length gc] W (fun e w' => e = .returned (.bool true) ∧ Below W.heap.size W w') ∧ Calls Try.prog 18 #[.slice (some ⟨pb, po, none⟩) l pc, .slice la ps.length lc] W (fun e w' => e = .returned (.bool true) ∧ Below W.heap.size W w') from fun W h => by
                                have hq := HQ.out W h
                                have e := HB0.out
                                subst e
                                exact ⟨refSame_yes _ _ gs W hq.1 (HO3.out.below h) HFg.out, refSame_yes _ _ ps W hq.2 (HL3.out.below h) HFp.out⟩)
                              have HC1 := Lib.hid (HSa.out wr HBW.out).1
                              clear HBY3 XOm XLm KBm FBm KOm
                              go_wp2_with fail
                              refine HC1.out.mono ?_
                              rintro e w11 ⟨rfl, hb⟩
                              have HBW2 := Lib.hid (HBW.out.trans (hb.mono (by have := HBW.out.size; have := HB0.out; omega)))
                              have HFn2 := Lib.hid hb
                              have HC2 := Lib.hid (HSa.out w11 HBW2.out).2
                              clear hb HC1
                              go_wp2_with fail
                              refine HC2.out.mono ?_
                              rintro e w12 ⟨rfl, hb⟩
                              have HBW3 := Lib.hid (HBW2.out.trans (hb.mono (by have := HBW2.out.size; have := HB0.out; omega)))
                              have hbb := HFn2.out.trans (hb.mono HFn2.out.size)
                              have HFn3 := Lib.hid (show ∃ fs : Array Value, fs.size = 3 ∧ Blk w12 B0 54 fs ∧ (0 < r + 1 → ∀ j, j < 3 → Owp (B0 + 1) w12 (fs.getD j undef) (T.getD j [])) from by
                                obtain ⟨fs, f1, f2, f3⟩ := HFn.out
                                exact ⟨fs, f1, f2.below hbb, fun h0 j hj => (f3 h0 j hj).below' hbb⟩)
                              clear hb hbb HC2 HFn HFn2
                              go_wp2_with fail
                              go_roundw
                              case rel => exact ⟨r + 1, by omega, by go_num, HBW3, HFn3⟩
                              case measure => simp [intOf]; omega
        · --M23
          have HBf := Lib.hid (HB3.out.trans (HW.out.mono (by have := HB0.out; have := HB3.out.size; omega)))
          go_wp2_with fail
          refine (alive_any _).mono ?_
          rintro e w13 ⟨rfl, hb⟩
          have HB := Lib.hid (HBf.out.trans (hb.mono HBf.out.size))
          clear hb
          go_wp2_with fail
          go_ret
          exact ⟨rfl, HB.out⟩
end Go.Proofs.Ytjnjhfificpbbaa
