/- The walks of the statements' own functions, ninth part: PermConjugate. -/
import Derived.Test.YtcnkegcogepimaaProg
import Derived.Test.YtcnkegcogepimaaBase
import Derived.Test.YtcnkegcogepimaaLawA
import Derived.Test.YtcnkegcogepimaaLawB
import Derived.Test.YtcnkegcogepimaaLawG
import Derived.Test.YtcnkegcogepimaaConj
import Derived.Test.YtcnkegcogepimaaConjO
import Derived.Test.YtcnkegcogepimaaCnt
import Derived.Test.YtcnkegcogepimaaRank
namespace Go.Proofs.Ytcnkegcogepimaa
open Go.RowKit

set_option maxHeartbeats 1000000 in
/-- the statements' own 'lengths' -/
theorem lengths_any (v : Value) (p : List Int) (w : World) (h : Sl w v p) (hv : validL p = true) :
    Calls Try.prog 46 #[v] w fun e w' => ∃ r, e = .returned r ∧ Ow w.heap.size w' r (lenL p) ∧ Below w.heap.size w w' := by
  have HS := Lib.hid h
  obtain ⟨a, ca, rfl, _⟩ := h
  obtain ⟨i0, hi, hz0, hz1, hz2⟩ := info_parts infoInt
  have HV := Lib.hid hv
  obtain ⟨K1, K2⟩ := longL_bounds hv
  have K2 := Lib.hid K2
  clear hv
  go_enter Try.func46, Try.ntmps46
  go_wp2_with (at_make; refine wpList_make_full _ rfl _ _ 22 rfl w.heap.size 3 i0 (.int .i64 0) 1 Try.underlying22 hi hz0 hz1 _ _ _ _ 8 rfl rfl rfl rfl (by rw [hz2]; omega) (by unfold maxLen; omega) (Nat.le_refl _) ?_; intro w1 hown hgrow)
  clear i0 hi hz0 hz1 hz2
  have HB := Lib.hid (blk_of_made hown)
  have B1 := Lib.hid (Below.of_grown hgrow)
  have hsz : w.heap.size < w1.heap.size := HB.out.lt
  clear hown hgrow
  go_wp2_with fail
  refine (cycles_yes _ p _ (HS.out.below B1.out) HV.out).mono ?_
  rintro e w2 ⟨l, rfl, C, b2⟩
  have HB := Lib.hid (HB.out.below b2)
  have B2 := Lib.hid (B1.out.trans (b2.mono B1.out.size))
  have C := Lib.hid (C.mono (show w.heap.size + 1 ≤ w1.heap.size by omega))
  clear b2
  obtain ⟨al, cl, rfl, _⟩ := C.out.slls
  go_wp2
  go_loopw [5] (fun i wr => ∃ j : Nat, j ≤ (longL p).length ∧ i = .int .i64 j ∧ Hid (Blk wr w.heap.size 3 (ints (lenTo (longL p) j))) ∧ Hid (Ows (w.heap.size + 1) wr (.slice al (longL p).length cl) (longL p)) ∧ Below w.heap.size w wr) (fun i _ => (longL p).length - (intOf i).toNat)
  case atStart => exact ⟨0, Nat.zero_le _, rfl, by rw [lenTo_zero]; exact HB, C, B2.out⟩
  case round =>
    clear HB C B2
    obtain ⟨j, hj, rfl, HB, C, hb⟩ := hrel
    by_cases hlt : j < (longL p).length
    · obtain ⟨al2, cl2, e2, hL⟩ := C.out.slls
      cases e2
      rcases hL with h | ⟨bl, ol, rfl, hc⟩
      · simp [h] at hlt
      obtain ⟨z, g1, s1⟩ := hc j hlt
      obtain ⟨za, zc, rfl, _⟩ := s1
      obtain ⟨n2, n7, _⟩ := long_get HV.out hlt
      have hsucc := lenTo_succ (longL p) j hlt (by omega)
      have hcl : (((longL p).take j).filter fun c => c.length == ((longL p).getD j []).length).length ≤ 1000000 := by
        refine Nat.le_trans (List.length_filter_le _ _) ?_
        rw [List.length_take]; omega
      have hg := lenTo_get (longL p) j ((longL p).getD j []).length (by omega)
      obtain ⟨n, hn⟩ : ∃ n, n = ((longL p).getD j []).length := ⟨_, rfl⟩
      rw [← hn] at g1 n2 n7 hsucc hcl hg
      obtain ⟨y, hy⟩ : ∃ y, y = (((longL p).take j).filter fun c => c.length == n).length := ⟨_, rfl⟩
      rw [← hy] at hcl hg
      rw [hg] at hsucc
      have hcell : wr.cell? ⟨w.heap.size, n, none⟩ = some (.int .i64 y) := by
        rw [HB.out.cell n, ints_get _ _ (by rw [length_lenTo]; omega), hg]
      have hf := HB.out.free n
      have hset : Blk (wr.setCell ⟨w.heap.size, n, none⟩ (.int .i64 ((y : Int) + 1))) w.heap.size 3 (ints (lenTo (longL p) (j + 1))) := by
        have := HB.out.set n (.int .i64 ((y : Int) + 1))
        rwa [ints_set, ← hsucc] at this
      have hows : Ows (w.heap.size + 1) (wr.setCell ⟨w.heap.size, n, none⟩ (.int .i64 ((y : Int) + 1))) (.slice (some ⟨bl, ol, none⟩) (longL p).length cl) (longL p) :=
        C.out.turns (priv := fun b => b = w.heap.size) ((Turns.refl _ wr).setCell _ _ _ rfl) (fun b hb => by omega)
      have HSet := Lib.hid hset
      have HOws := Lib.hid hows
      clear hset hows hsucc hg hc hn hy
      go_wp2
      go_roundw
      case rel => exact ⟨j + 1, by omega, by go_num, HSet, HOws, hb.setCell (Nat.le_refl _) _⟩
      case measure => simp [intOf]; omega
    · have hje : j = (longL p).length := by omega
      have hO : Ow w.heap.size wr (.slice (some ⟨w.heap.size, 0, none⟩) 8 8) (lenL p) := by
        have := HB.out
        rw [hje] at this
        exact Ow.of_blk this (Nat.le_refl _) (by rw [length_lenTo]; omega) _ (length_lenTo _ _).symm
      have HO := Lib.hid hO
      have hlt' : (longL p).length ≤ j := by omega
      clear hje hO
      go_wp2
      go_ret
      exact ⟨_, rfl, HO.out, hb⟩

set_option maxHeartbeats 4000000 in
theorem conjugate_law (v1 v2 v3 : Value) (p q c : List Int) (w : World) (h1 : Sl w v1 p) (h2 : Sl w v2 q) (h3 : Sl w v3 c) :
    Calls Try.prog 10 #[v1, v2, v3] w fun e w' => e = .returned (.bool true) ∧ Below w.heap.size w w' := by
  have H1 := Lib.hid h1
  have H2 := Lib.hid h2
  have H3 := Lib.hid h3
  obtain ⟨a, ca, rfl, _⟩ := h1
  obtain ⟨b, cb, rfl, _⟩ := h2
  obtain ⟨d, cd, rfl, _⟩ := h3
  have hs := sls_three w a b d p.length ca q.length cb c.length cd
  have HS := Lib.hid hs
  have B0 := Lib.hid ((Below.refl _ w).alloc (Nat.le_refl _) (.cells #[.slice a p.length ca, .slice b q.length cb, .slice d c.length cd] 23))
  have hall : ∀ i, i < [Value.slice a p.length ca, .slice b q.length cb, .slice d c.length cd].length → Sl (w.alloc (.cells #[.slice a p.length ca, .slice b q.length cb, .slice d c.length cd] 23)) ([Value.slice a p.length ca, .slice b q.length cb, .slice d c.length cd].getD i undef) ([p, q, c].getD i []) := fun i hi => by
    match i, hi with
    | 0, _ => exact H1.out.below B0.out
    | 1, _ => exact H2.out.below B0.out
    | 2, _ => exact H3.out.below B0.out
  have HA := Lib.hid hall
  clear hs hall
  rcases hu : usableB [p, q, c] with _ | _
  · have HU := Lib.hid hu
    clear hu
    go_enter Try.func10, Try.ntmps10
    go_wp2_with fail
    refine (usable_any _ _ [p, q, c] _ HS.out (by simp) rfl HA.out).mono ?_
    rintro e w1 ⟨rfl, b1⟩
    rw [HU.out]
    have B1 := Lib.hid (B0.out.trans (b1.mono B0.out.size))
    clear b1
    go_wp2_with fail
    refine (alive_any _).mono ?_
    rintro e w2 ⟨rfl, b2⟩
    have B2 := Lib.hid (B1.out.trans (b2.mono B1.out.size))
    clear b2
    go_wp2
    go_ret
    exact ⟨rfl, B2.out⟩
  · obtain ⟨vp, vq, vc, lq, lc⟩ := usableB_three hu
    have HU := Lib.hid hu
    have hm1 : validL (mulL (invL c) p) = true := mulL_valid (invL_valid vc) vp (by rw [length_invL]; exact lc)
    have hl1 : (mulL (invL c) p).length = c.length := by rw [length_mulL, length_invL]
    have hm2 : validL (mulL (mulL (invL c) p) c) = true := mulL_valid hm1 vc hl1
    have E1 := Lib.hid (errP_ok (invL_valid vc) vp (by rw [length_invL]; exact lc))
    have E2 := Lib.hid (errP_ok hm1 vc hl1)
    have E3 := Lib.hid (errP_ok vp hm2 (by rw [length_mulL, hl1, lc]))
    have E4 := Lib.hid (errP_ok vp vq lq.symm)
    have V1 := Lib.hid (show errV c = 0 from if_pos vc)
    have V2 := Lib.hid (show invE c = invL c from if_pos vc)
    obtain ⟨js, hjs, hless⟩ := conj_own vp vc lc
    have HJ := Lib.hid hjs
    have HL := Lib.hid hless
    have hci := chs_iff vp vq lq.symm
    have VP := Lib.hid vp
    have VQ := Lib.hid vq
    have LQ := Lib.hid lq
    have hc7 := valid_small vc
    have hq7 := Lib.hid (valid_small vq)
    have e8p := Lib.hid (show (lenL p).length ≤ 1000000 by unfold lenL; rw [length_lenTo]; omega)
    have e8q := Lib.hid (show (lenL q).length ≤ 1000000 by unfold lenL; rw [length_lenTo]; omega)
    clear hu vp vq vc lq lc hm1 hl1 hm2 hjs hless
    rcases hch : chs p q (cyc p).length with _ | js2
    · rw [hch] at hci
      have HCI := Lib.hid (show decide (lenL p = lenL q) = false from hci.symm)
      have HCh := Lib.hid hch
      clear hci hch
      go_enter Try.func10, Try.ntmps10
      go_wp2_with fail
      refine (usable_any _ _ [p, q, c] _ HS.out (by simp) rfl HA.out).mono ?_
      rintro e w1 ⟨rfl, b1⟩
      rw [HU.out]
      have B1 := Lib.hid (B0.out.trans (b1.mono B0.out.size))
      clear b1
      go_wp2_with fail
      refine (Inverse_any _ c _ (H3.out.below B1.out) hc7).mono ?_
      rintro e w2 ⟨v, rfl, O1, b2⟩
      rw [V1.out]
      rw [V2.out] at O1
      have O1 := Lib.hid O1
      have B2 := Lib.hid (B1.out.trans (b2.mono B1.out.size))
      clear b2
      go_wp2_with fail
      refine (lawmul _ _ _ p _ O1.out.sl (H1.out.below B2.out) E1.out).mono ?_
      rintro e w3 ⟨x1, rfl, X1, b3⟩
      have X1 := Lib.hid X1
      have B3 := Lib.hid (B2.out.trans (b3.mono B2.out.size))
      clear b3
      go_wp2_with fail
      refine (lawmul _ _ _ c _ X1.out.sl (H3.out.below B3.out) E2.out).mono ?_
      rintro e w4 ⟨x2, rfl, X2, b4⟩
      have X2 := Lib.hid X2
      have B4 := Lib.hid (B3.out.trans (b4.mono B3.out.size))
      clear b4
      go_wp2_with fail
      refine (conj_ok _ _ p _ _ (H1.out.below B4.out) X2.out.sl E3.out).mono ?_
      rintro e w5 ⟨hout, b5⟩
      rw [HJ.out] at hout
      obtain ⟨x3, rfl, X3⟩ := hout
      have X3 := Lib.hid X3
      have B5 := Lib.hid (B4.out.trans (b5.mono B4.out.size))
      clear b5
      go_wp2_with fail
      refine (conj_ok _ _ p q _ (H1.out.below B5.out) (H2.out.below B5.out) E4.out).mono ?_
      rintro e w6 ⟨hout, b6⟩
      rw [HCh.out] at hout
      obtain rfl : e = .returned (.tuple #[.slice none 0 0, .int .i64 6]) := hout
      have X3 := Lib.hid (X3.out.below b6)
      have B6 := Lib.hid (B5.out.trans (b6.mono B5.out.size))
      clear b6
      go_wp2_with fail
      refine (less_any _ _ c _ _ (H3.out.below B6.out) X3.out.sl hc7).mono ?_
      rintro e w7 ⟨rfl, n7, rfl⟩
      rw [HL.out]
      have B7 := Lib.hid (below_drewN' B6.out n7)
      go_wp2_with fail
      refine (lengths_any _ p _ (H1.out.below B7.out) VP.out).mono ?_
      rintro e w8 ⟨x5, rfl, X5, b8⟩
      have X5 := Lib.hid X5
      have B8 := Lib.hid (B7.out.trans (b8.mono B7.out.size))
      clear b8
      go_wp2_with fail
      refine (lengths_any _ q _ (H2.out.below B8.out) VQ.out).mono ?_
      rintro e w9 ⟨x6, rfl, X6, b9⟩
      have X5 := Lib.hid (X5.out.below b9)
      have X6 := Lib.hid X6
      have B9 := Lib.hid (B8.out.trans (b9.mono B8.out.size))
      clear b9
      go_wp2_with fail
      refine (sameints_any _ _ _ _ _ X5.out.sl X6.out.sl e8p.out e8q.out).mono ?_
      rintro e w10 ⟨rfl, n10, rfl⟩
      rw [HCI.out]
      have B10 := Lib.hid (below_drewN' B9.out n10)
      go_wp2_with fail
      refine (alive_any _).mono ?_
      rintro e w11 ⟨rfl, b11⟩
      have B11 := Lib.hid (B10.out.trans (b11.mono B10.out.size))
      clear b11
      go_wp2
      go_ret
      exact ⟨rfl, B11.out⟩
    · rw [hch] at hci
      have HCI := Lib.hid (show decide (lenL p = lenL q) = true from hci.symm)
      have HCh := Lib.hid hch
      obtain ⟨hv2, hm⟩ := conj_mul VP.out VQ.out LQ.out.symm hch
      have hl2 : (cf p q js2 (cyc p).length).length = p.length := length_cf _ _ _ _
      obtain ⟨k, hk⟩ : ∃ k, k = cf p q js2 (cyc p).length := ⟨_, rfl⟩
      rw [← hk] at hv2 hm hl2
      have HK := Lib.hid hk
      have hm1 : validL (mulL (invL k) p) = true := mulL_valid (invL_valid hv2) VP.out (by rw [length_invL]; exact hl2)
      have F1 := Lib.hid (errP_ok (invL_valid hv2) VP.out (by rw [length_invL]; exact hl2))
      have F2 := Lib.hid (errP_ok hm1 hv2 (by rw [length_mulL, length_invL]))
      have W1 := Lib.hid (show errV k = 0 from if_pos hv2)
      have W2 := Lib.hid (show invE k = invL k from if_pos hv2)
      have HM := Lib.hid hm
      have hk7 := valid_small hv2
      have hl7 := Lib.hid (show (mulL (mulL (invL k) p) k).length ≤ 1000000 by rw [hm]; exact hq7.out)
      clear hci hch hv2 hm hl2 hk hm1
      go_enter Try.func10, Try.ntmps10
      go_wp2_with fail
      refine (usable_any _ _ [p, q, c] _ HS.out (by simp) rfl HA.out).mono ?_
      rintro e w1 ⟨rfl, b1⟩
      rw [HU.out]
      have B1 := Lib.hid (B0.out.trans (b1.mono B0.out.size))
      clear b1
      go_wp2_with fail
      refine (Inverse_any _ c _ (H3.out.below B1.out) hc7).mono ?_
      rintro e w2 ⟨v, rfl, O1, b2⟩
      rw [V1.out]
      rw [V2.out] at O1
      have O1 := Lib.hid O1
      have B2 := Lib.hid (B1.out.trans (b2.mono B1.out.size))
      clear b2
      go_wp2_with fail
      refine (lawmul _ _ _ p _ O1.out.sl (H1.out.below B2.out) E1.out).mono ?_
      rintro e w3 ⟨x1, rfl, X1, b3⟩
      have X1 := Lib.hid X1
      have B3 := Lib.hid (B2.out.trans (b3.mono B2.out.size))
      clear b3
      go_wp2_with fail
      refine (lawmul _ _ _ c _ X1.out.sl (H3.out.below B3.out) E2.out).mono ?_
      rintro e w4 ⟨x2, rfl, X2, b4⟩
      have X2 := Lib.hid X2
      have B4 := Lib.hid (B3.out.trans (b4.mono B3.out.size))
      clear b4
      go_wp2_with fail
      refine (conj_ok _ _ p _ _ (H1.out.below B4.out) X2.out.sl E3.out).mono ?_
      rintro e w5 ⟨hout, b5⟩
      rw [HJ.out] at hout
      obtain ⟨x3, rfl, X3⟩ := hout
      have X3 := Lib.hid X3
      have B5 := Lib.hid (B4.out.trans (b5.mono B4.out.size))
      clear b5
      go_wp2_with fail
      refine (conj_ok _ _ p q _ (H1.out.below B5.out) (H2.out.below B5.out) E4.out).mono ?_
      rintro e w6 ⟨hout, b6⟩
      rw [HCh.out] at hout
      obtain ⟨x4, rfl, X4⟩ := hout
      rw [← HK.out] at X4
      have X4 := Lib.hid X4
      have X3 := Lib.hid (X3.out.below b6)
      have B6 := Lib.hid (B5.out.trans (b6.mono B5.out.size))
      clear b6
      go_wp2_with fail
      refine (less_any _ _ c _ _ (H3.out.below B6.out) X3.out.sl hc7).mono ?_
      rintro e w7 ⟨rfl, n7, rfl⟩
      rw [HL.out]
      have X4 := Lib.hid (X4.out.below (below_drewN' (Below.refl _ _) n7))
      have B7 := Lib.hid (below_drewN' B6.out n7)
      go_wp2_with fail
      refine (lengths_any _ p _ (H1.out.below B7.out) VP.out).mono ?_
      rintro e w8 ⟨x5, rfl, X5, b8⟩
      have X4 := Lib.hid (X4.out.below b8)
      have X5 := Lib.hid X5
      have B8 := Lib.hid (B7.out.trans (b8.mono B7.out.size))
      clear b8
      go_wp2_with fail
      refine (lengths_any _ q _ (H2.out.below B8.out) VQ.out).mono ?_
      rintro e w9 ⟨x6, rfl, X6, b9⟩
      have X4 := Lib.hid (X4.out.below b9)
      have X5 := Lib.hid (X5.out.below b9)
      have X6 := Lib.hid X6
      have B9 := Lib.hid (B8.out.trans (b9.mono B8.out.size))
      clear b9
      go_wp2_with fail
      refine (sameints_any _ _ _ _ _ X5.out.sl X6.out.sl e8p.out e8q.out).mono ?_
      rintro e w10 ⟨rfl, n10, rfl⟩
      rw [HCI.out]
      have X4 := Lib.hid (X4.out.below (below_drewN' (Below.refl _ _) n10))
      have B10 := Lib.hid (below_drewN' B9.out n10)
      go_wp2_with fail
      refine (Inverse_any _ k _ X4.out.sl hk7).mono ?_
      rintro e w11 ⟨y, rfl, O2, b11⟩
      rw [W1.out]
      rw [W2.out] at O2
      have O2 := Lib.hid O2
      have X4 := Lib.hid (X4.out.below b11)
      have B11 := Lib.hid (B10.out.trans (b11.mono B10.out.size))
      clear b11
      go_wp2_with fail
      refine (lawmul _ _ _ p _ O2.out.sl (H1.out.below B11.out) F1.out).mono ?_
      rintro e w12 ⟨x7, rfl, X7, b12⟩
      have X7 := Lib.hid X7
      have X4 := Lib.hid (X4.out.below b12)
      have B12 := Lib.hid (B11.out.trans (b12.mono B11.out.size))
      clear b12
      go_wp2_with fail
      refine (lawmul _ _ _ k _ X7.out.sl X4.out.sl F2.out).mono ?_
      rintro e w13 ⟨x8, rfl, X8, b13⟩
      have X8 := Lib.hid X8
      have B13 := Lib.hid (B12.out.trans (b13.mono B12.out.size))
      clear b13
      go_wp2_with fail
      refine (same_any _ _ _ _ _ X8.out.sl (H2.out.below B13.out) hl7.out hq7.out).mono ?_
      rintro e w14 ⟨rfl, n14, rfl⟩
      rw [decide_eq_true HM.out]
      have B14 := Lib.hid (below_drewN' B13.out n14)
      go_wp2_with fail
      refine (alive_any _).mono ?_
      rintro e w15 ⟨rfl, b15⟩
      have B15 := Lib.hid (B14.out.trans (b15.mono B14.out.size))
      clear b15
      go_wp2
      go_ret
      exact ⟨rfl, B15.out⟩
end Go.Proofs.Ytcnkegcogepimaa
