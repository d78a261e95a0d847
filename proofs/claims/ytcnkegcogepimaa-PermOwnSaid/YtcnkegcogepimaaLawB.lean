/- The walks of the statements' own functions, second part: PermGroup. -/
import Derived.Test.YtcnkegcogepimaaProg
import Derived.Test.YtcnkegcogepimaaBase
import Derived.Test.YtcnkegcogepimaaRef
import Derived.Test.YtcnkegcogepimaaPair
import Derived.Test.YtcnkegcogepimaaUsable
import Derived.Test.YtcnkegcogepimaaLawA
namespace Go.Proofs.Ytcnkegcogepimaa
open Go.RowKit

theorem sls_three (w : World) (a b e : Option Addr) (n c m d k f : Nat) : Sls (w.alloc (.cells #[.slice a n c, .slice b m d, .slice e k f] 23)) (.slice (some ⟨w.heap.size, 0, none⟩) 3 3) [.slice a n c, .slice b m d, .slice e k f] := by
  have hB := Blk.new w 23 #[.slice a n c, .slice b m d, .slice e k f]
  refine ⟨w.heap.size, 0, 3, rfl, fun i hi => ?_⟩
  match i, hi with
  | 0, _ => exact ⟨by rw [hB.cell 0]; rfl, a, n, c, rfl⟩
  | 1, _ => exact ⟨by rw [hB.cell 1]; rfl, b, m, d, rfl⟩
  | 2, _ => exact ⟨by rw [hB.cell 2]; rfl, e, k, f, rfl⟩

theorem usableB_three {p q r : List Int} (h : usableB [p, q, r] = true) : validL p = true ∧ validL q = true ∧ validL r = true ∧ q.length = p.length ∧ r.length = p.length := by
  have := of_decide_eq_true (show decide (∀ i, i < [p, q, r].length → validL ([p, q, r].getD i []) = true ∧ ([p, q, r].getD i []).length = ([p, q, r].getD 0 []).length) = true from h)
  exact ⟨(this 0 (by simp)).1, (this 1 (by simp)).1, (this 2 (by simp)).1, (this 1 (by simp)).2, (this 2 (by simp)).2⟩
theorem usableB_two {p q : List Int} (h : usableB [p, q] = true) : validL p = true ∧ validL q = true ∧ q.length = p.length := by
  have := of_decide_eq_true (show decide (∀ i, i < [p, q].length → validL ([p, q].getD i []) = true ∧ ([p, q].getD i []).length = ([p, q].getD 0 []).length) = true from h)
  exact ⟨(this 0 (by simp)).1, (this 1 (by simp)).1, (this 1 (by simp)).2⟩

theorem valid_small {p : List Int} (h : validL p = true) : p.length ≤ 1000000 := by have := ((validL_iff p).1 h).2.1; omega

set_option maxHeartbeats 400000 in
/-- the statements' own 'mul', where both are valid and of one length -/
theorem lawmul (v1 v2 : Value) (p q : List Int) (w : World) (h1 : Sl w v1 p) (h2 : Sl w v2 q) (he : errP p q = 0) :
    Calls Try.prog 43 #[v1, v2] w fun e w' => ∃ v, e = .returned v ∧ Ow w.heap.size w' v (mulL p q) ∧ Below w.heap.size w w' := by
  obtain ⟨g1, g2, g3⟩ := errP_zero he
  have hp := valid_small g1
  have hq := valid_small g2
  have H1 := Lib.hid h1
  have H2 := Lib.hid h2
  have HE := Lib.hid he
  have HM := Lib.hid (show mulE p q = mulL p q from if_pos he)
  obtain ⟨a, ca, rfl, _⟩ := h1
  obtain ⟨b, cb, rfl, _⟩ := h2
  clear he g1 g2 g3
  go_enter Try.func43, Try.ntmps43
  go_wp2_with fail
  refine (Mul_any _ _ p q _ H1.out H2.out hp hq).mono ?_
  rintro e w1 ⟨x, rfl, O, b1⟩
  rw [HE.out]
  rw [HM.out] at O
  have O := Lib.hid O
  go_wp2
  go_ret
  exact ⟨_, rfl, O.out, b1⟩

set_option maxHeartbeats 400000 in
theorem Identity_ok (n : Nat) (w : World) (h1 : 1 ≤ n) (h7 : n ≤ 7) :
    Calls Try.prog 27 #[.int .i64 n] w fun e w' => ∃ v, e = .returned (.tuple #[v, .int .i64 0]) ∧ Ow w.heap.size w' v (idL n) ∧ Below w.heap.size w w' := by
  go_enter Try.func27, Try.ntmps27
  go_wp2_with fail
  refine (identity_any n _ (by omega)).mono ?_
  rintro e w1 ⟨x, rfl, O, b1⟩
  have O := Lib.hid O
  go_wp2
  go_ret2
  exact ⟨_, rfl, O.out, b1⟩

set_option maxHeartbeats 400000 in
theorem Identity_no (n : Int) (w : World) (h : n < 1 ∨ 7 < n) :
    Calls Try.prog 27 #[.int .i64 n] w fun e w' => e = .returned (.tuple #[.slice none 0 0, .int .i64 2]) ∧ w = w' := by
  rcases h with h | h
  · go_enter Try.func27, Try.ntmps27
    go_wp2
    go_ret2
    exact ⟨rfl, rfl⟩
  · have h1 : ¬ n < 1 := by omega
    go_enter Try.func27, Try.ntmps27
    go_wp2
    go_ret2
    exact ⟨rfl, rfl⟩

set_option maxHeartbeats 2000000 in
theorem group_law (v1 v2 v3 : Value) (p q r : List Int) (w : World) (h1 : Sl w v1 p) (h2 : Sl w v2 q) (h3 : Sl w v3 r) :
    Calls Try.prog 8 #[v1, v2, v3] w fun e w' => e = .returned (.bool true) ∧ Below w.heap.size w w' := by
  have H1 := Lib.hid h1
  have H2 := Lib.hid h2
  have H3 := Lib.hid h3
  obtain ⟨a, ca, rfl, _⟩ := h1
  obtain ⟨b, cb, rfl, _⟩ := h2
  obtain ⟨c, cc, rfl, _⟩ := h3
  have hs := sls_three w a b c p.length ca q.length cb r.length cc
  have HS := Lib.hid hs
  have B0 := Lib.hid ((Below.refl _ w).alloc (Nat.le_refl _) (.cells #[.slice a p.length ca, .slice b q.length cb, .slice c r.length cc] 23))
  have hall : ∀ i, i < [Value.slice a p.length ca, .slice b q.length cb, .slice c r.length cc].length → Sl (w.alloc (.cells #[.slice a p.length ca, .slice b q.length cb, .slice c r.length cc] 23)) ([Value.slice a p.length ca, .slice b q.length cb, .slice c r.length cc].getD i undef) ([p, q, r].getD i []) := fun i hi => by
    match i, hi with
    | 0, _ => exact H1.out.below B0.out
    | 1, _ => exact H2.out.below B0.out
    | 2, _ => exact H3.out.below B0.out
  have HA := Lib.hid hall
  clear hs hall
  rcases hu : usableB [p, q, r] with _ | _
  · have HU := Lib.hid hu
    clear hu
    go_enter Try.func8, Try.ntmps8
    go_wp2_with fail
    refine (usable_any _ _ [p, q, r] _ HS.out (by simp) rfl HA.out).mono ?_
    rintro e w1 ⟨rfl, b1⟩
    rw [HU.out]
    have B1 := Lib.hid (B0.out.trans (b1.mono B0.out.size))
    clear b1
    go_wp2_with fail
    refine (alive_any _).mono ?_
    rintro e w2 ⟨rfl, b2⟩
    have B2 := Lib.hid (B1.out.trans (b2.mono B1.out.size))
    clear b2
    go_wp2
    go_ret
    exact ⟨rfl, B2.out⟩
  · obtain ⟨vp, vq, vr, lq, lr⟩ := usableB_three hu
    have HU := Lib.hid hu
    have hn1 : 1 ≤ p.length := ((validL_iff p).1 vp).1
    have hn7 : p.length ≤ 7 := ((validL_iff p).1 vp).2.1
    have E1 := Lib.hid (errP_ok vp vq lq.symm)
    have E2 := Lib.hid (errP_ok (mulL_valid vp vq lq.symm) vr (by rw [length_mulL]; exact lr.symm))
    have E3 := Lib.hid (errP_ok vq vr (by omega))
    have E4 := Lib.hid (errP_ok vp (mulL_valid vq vr (by omega)) (by rw [length_mulL]; omega))
    have E5 := Lib.hid (errP_ok (idL_valid hn1 hn7) vp (length_idL _))
    have E6 := Lib.hid (errP_ok vp (idL_valid hn1 hn7) (length_idL _).symm)
    have E7 := Lib.hid (errP_ok vp (invL_valid vp) (length_invL _).symm)
    have E8 := Lib.hid (errP_ok (invL_valid vp) vp (length_invL _))
    have A1 := Lib.hid (mulL_assoc (r := r) vp lq.symm)
    have A2 := Lib.hid (one_mulL p)
    have A3 := Lib.hid (mulL_one vp)
    have A4 := Lib.hid (mulL_inv vp)
    have A5 := Lib.hid (inv_mulL vp)
    have V1 := Lib.hid (show errV p = 0 from if_pos vp)
    have V2 := Lib.hid (show invE p = invL p from if_pos vp)
    have hp : p.length ≤ 1000000 := by omega
    clear hu vp vq vr lq lr
    go_enter Try.func8, Try.ntmps8
    go_wp2_with fail
    refine (usable_any _ _ [p, q, r] _ HS.out (by simp) rfl HA.out).mono ?_
    rintro e w1 ⟨rfl, b1⟩
    rw [HU.out]
    have B1 := Lib.hid (B0.out.trans (b1.mono B0.out.size))
    clear b1
    go_wp2_with fail
    refine (Identity_ok p.length _ hn1 hn7).mono ?_
    rintro e w2 ⟨one, rfl, O1, b2⟩
    have O1 := Lib.hid O1
    have B2 := Lib.hid (B1.out.trans (b2.mono B1.out.size))
    clear b2
    go_wp2_with fail
    refine (Inverse_any _ p _ (H1.out.below B2.out) hp).mono ?_
    rintro e w3 ⟨inv, rfl, O2, b3⟩
    rw [V1.out]
    rw [V2.out] at O2
    have O1 := Lib.hid (O1.out.below b3)
    have O2 := Lib.hid O2
    have B3 := Lib.hid (B2.out.trans (b3.mono B2.out.size))
    clear b3
    go_wp2_with fail
    refine (lawmul _ _ p q _ (H1.out.below B3.out) (H2.out.below B3.out) E1.out).mono ?_
    rintro e w4 ⟨x1, rfl, X1, b4⟩
    have O1 := Lib.hid (O1.out.below b4)
    have O2 := Lib.hid (O2.out.below b4)
    have X1 := Lib.hid X1
    have B4 := Lib.hid (B3.out.trans (b4.mono B3.out.size))
    clear b4
    go_wp2_with fail
    refine (lawmul _ _ _ r _ X1.out.sl (H3.out.below B4.out) E2.out).mono ?_
    rintro e w5 ⟨x2, rfl, X2, b5⟩
    have O1 := Lib.hid (O1.out.below b5)
    have O2 := Lib.hid (O2.out.below b5)
    have X2 := Lib.hid X2
    have B5 := Lib.hid (B4.out.trans (b5.mono B4.out.size))
    clear b5
    go_wp2_with fail
    refine (lawmul _ _ q r _ (H2.out.below B5.out) (H3.out.below B5.out) E3.out).mono ?_
    rintro e w6 ⟨x3, rfl, X3, b6⟩
    have O1 := Lib.hid (O1.out.below b6)
    have O2 := Lib.hid (O2.out.below b6)
    have X2 := Lib.hid (X2.out.below b6)
    have X3 := Lib.hid X3
    have B6 := Lib.hid (B5.out.trans (b6.mono B5.out.size))
    clear b6
    go_wp2_with fail
    refine (lawmul _ _ p _ _ (H1.out.below B6.out) X3.out.sl E4.out).mono ?_
    rintro e w7 ⟨x4, rfl, X4, b7⟩
    have O1 := Lib.hid (O1.out.below b7)
    have O2 := Lib.hid (O2.out.below b7)
    have X2 := Lib.hid (X2.out.below b7)
    have X4 := Lib.hid X4
    have B7 := Lib.hid (B6.out.trans (b7.mono B6.out.size))
    clear b7
    go_wp2_with fail
    refine (same_any _ _ _ _ _ X2.out.sl X4.out.sl (by rw [length_mulL, length_mulL]; exact hp) (by rw [length_mulL]; exact hp)).mono ?_
    rintro e w8 ⟨rfl, n8, rfl⟩
    rw [decide_eq_true A1.out]
    have O1 := Lib.hid (O1.out.below (below_drewN' (Below.refl _ _) n8))
    have O2 := Lib.hid (O2.out.below (below_drewN' (Below.refl _ _) n8))
    have B8 := Lib.hid (below_drewN' B7.out n8)
    go_wp2_with fail
    obtain ⟨u8, hu8⟩ : ∃ u, u = w7.drewN n8 := ⟨_, rfl⟩
    rw [← hu8] at O1 O2 B8 ⊢
    clear hu8
    refine (lawmul _ _ _ p _ O1.out.sl (H1.out.below B8.out) E5.out).mono ?_
    rintro e w9 ⟨x5, rfl, X5, b9⟩
    have O1 := Lib.hid (O1.out.below b9)
    have O2 := Lib.hid (O2.out.below b9)
    have X5 := Lib.hid X5
    have B9 := Lib.hid (B8.out.trans (b9.mono B8.out.size))
    clear b9
    go_wp2_with fail
    refine (same_any _ _ _ _ _ X5.out.sl (H1.out.below B9.out) (by rw [length_mulL, length_idL]; exact hp) hp).mono ?_
    rintro e w10 ⟨rfl, n10, rfl⟩
    rw [decide_eq_true A2.out]
    have O1 := Lib.hid (O1.out.below (below_drewN' (Below.refl _ _) n10))
    have O2 := Lib.hid (O2.out.below (below_drewN' (Below.refl _ _) n10))
    have B10 := Lib.hid (below_drewN' B9.out n10)
    go_wp2_with fail
    obtain ⟨u10, hu10⟩ : ∃ u, u = w9.drewN n10 := ⟨_, rfl⟩
    rw [← hu10] at O1 O2 B10 ⊢
    clear hu10
    refine (lawmul _ _ p _ _ (H1.out.below B10.out) O1.out.sl E6.out).mono ?_
    rintro e w11 ⟨x6, rfl, X6, b11⟩
    have O1 := Lib.hid (O1.out.below b11)
    have O2 := Lib.hid (O2.out.below b11)
    have X6 := Lib.hid X6
    have B11 := Lib.hid (B10.out.trans (b11.mono B10.out.size))
    clear b11
    go_wp2_with fail
    refine (same_any _ _ _ _ _ X6.out.sl (H1.out.below B11.out) (by rw [length_mulL]; exact hp) hp).mono ?_
    rintro e w12 ⟨rfl, n12, rfl⟩
    rw [decide_eq_true A3.out]
    have O1 := Lib.hid (O1.out.below (below_drewN' (Below.refl _ _) n12))
    have O2 := Lib.hid (O2.out.below (below_drewN' (Below.refl _ _) n12))
    have B12 := Lib.hid (below_drewN' B11.out n12)
    go_wp2_with fail
    obtain ⟨u12, hu12⟩ : ∃ u, u = w11.drewN n12 := ⟨_, rfl⟩
    rw [← hu12] at O1 O2 B12 ⊢
    clear hu12
    refine (lawmul _ _ p _ _ (H1.out.below B12.out) O2.out.sl E7.out).mono ?_
    rintro e w13 ⟨x7, rfl, X7, b13⟩
    have O1 := Lib.hid (O1.out.below b13)
    have O2 := Lib.hid (O2.out.below b13)
    have X7 := Lib.hid X7
    have B13 := Lib.hid (B12.out.trans (b13.mono B12.out.size))
    clear b13
    go_wp2_with fail
    refine (same_any _ _ _ _ _ X7.out.sl O1.out.sl (by rw [length_mulL]; exact hp) (by rw [length_idL]; exact hp)).mono ?_
    rintro e w14 ⟨rfl, n14, rfl⟩
    rw [decide_eq_true A4.out]
    have O1 := Lib.hid (O1.out.below (below_drewN' (Below.refl _ _) n14))
    have O2 := Lib.hid (O2.out.below (below_drewN' (Below.refl _ _) n14))
    have B14 := Lib.hid (below_drewN' B13.out n14)
    go_wp2_with fail
    obtain ⟨u14, hu14⟩ : ∃ u, u = w13.drewN n14 := ⟨_, rfl⟩
    rw [← hu14] at O1 O2 B14 ⊢
    clear hu14
    refine (lawmul _ _ _ p _ O2.out.sl (H1.out.below B14.out) E8.out).mono ?_
    rintro e w15 ⟨x8, rfl, X8, b15⟩
    have O1 := Lib.hid (O1.out.below b15)
    have X8 := Lib.hid X8
    have B15 := Lib.hid (B14.out.trans (b15.mono B14.out.size))
    clear b15
    go_wp2_with fail
    refine (same_any _ _ _ _ _ X8.out.sl O1.out.sl (by rw [length_mulL, length_invL]; exact hp) (by rw [length_idL]; exact hp)).mono ?_
    rintro e w16 ⟨rfl, n16, rfl⟩
    rw [decide_eq_true A5.out]
    have B16 := Lib.hid (below_drewN' B15.out n16)
    go_wp2_with fail
    refine (alive_any _).mono ?_
    rintro e w17 ⟨rfl, b17⟩
    have B17 := Lib.hid (B16.out.trans (b17.mono B16.out.size))
    go_wp2
    go_ret
    exact ⟨rfl, B17.out⟩

end Go.Proofs.Ytcnkegcogepimaa
