/- perm.checkPair, perm.Mul, perm.Commutator, perm.Inverse, perm.Identity: results and errors. -/
import Derived.Test.YtcnkegcogepimaaDoorProg
import Derived.Test.YtcnkegcogepimaaDoorBase
import Derived.Test.YtcnkegcogepimaaDoorLists
import Derived.Test.YtcnkegcogepimaaDoorValid
import Derived.Test.YtcnkegcogepimaaDoorMul
import Derived.Test.YtcnkegcogepimaaDoorAlg
namespace Go.Proofs.YtcnkegcogepimaaDoor
open Go.RowKit

/-- the error of a function of two permutations -/
def errP (p q : List Int) : Int := if validL p = true ∧ validL q = true then (if p.length = q.length then 0 else 2) else 1
theorem valid_small' {p : List Int} (h : validL p = true) : p.length ≤ 1000000 := by have := ((validL_iff p).1 h).2.1; omega
theorem errP_zero {p q : List Int} (h : errP p q = 0) : validL p = true ∧ validL q = true ∧ p.length = q.length := by
  unfold errP at h
  by_cases a : validL p = true ∧ validL q = true
  · rw [if_pos a] at h
    by_cases b : p.length = q.length
    · exact ⟨a.1, a.2, b⟩
    · rw [if_neg b] at h; cases h
  · rw [if_neg a] at h; cases h
theorem errP_ok {p q : List Int} (h1 : validL p = true) (h2 : validL q = true) (h3 : p.length = q.length) : errP p q = 0 := by
  unfold errP; rw [if_pos ⟨h1, h2⟩, if_pos h3]

set_option maxHeartbeats 400000 in
theorem pair_any (v1 v2 : Value) (p q : List Int) (w : World) (h1 : Sl w v1 p) (h2 : Sl w v2 q) (hp : p.length ≤ 1000000) (hq : q.length ≤ 1000000) :
    Calls Tryd.prog 32 #[v1, v2] w fun e w' => e = .returned (.int .i64 (errP p q)) ∧ Below w.heap.size w w' := by
  have H1 := Lib.hid h1
  have H2 := Lib.hid h2
  obtain ⟨a, ca, rfl, _⟩ := h1
  obtain ⟨b, cb, rfl, _⟩ := h2
  rcases hv1 : validL p with _ | _
  · have e : errP p q = 1 := by unfold errP; rw [if_neg (by simp [hv1])]
    have HE := Lib.hid e
    have HV1 := Lib.hid hv1
    clear e hv1
    go_enter Tryd.func32, Tryd.ntmps32
    go_wp2_with (go_at_call 23; refine (valid_any _ p _ H1.out hp).mono ?_; rintro e w1 ⟨rfl, hb⟩; rw [HV1.out])
    go_ret
    exact ⟨ret_int HE.out.symm, hb⟩
  rcases hv2 : validL q with _ | _
  · have e : errP p q = 1 := by unfold errP; rw [if_neg (by simp [hv2])]
    have HE := Lib.hid e
    have HV1 := Lib.hid hv1
    have HV2 := Lib.hid hv2
    clear e hv1 hv2
    go_enter Tryd.func32, Tryd.ntmps32
    go_wp2_with fail
    refine (valid_any _ p _ H1.out hp).mono ?_
    rintro e w1 ⟨rfl, hb⟩
    rw [HV1.out]
    go_wp2_with fail
    refine (valid_any _ q _ (H2.out.below hb) hq).mono ?_
    rintro e w2 ⟨rfl, hb2⟩
    rw [HV2.out]
    go_wp2
    go_ret
    exact ⟨ret_int HE.out.symm, hb.trans (hb2.mono hb.size)⟩
  by_cases hl : p.length = q.length
  · have HE := Lib.hid (errP_ok hv1 hv2 hl)
    have hlb : ((p.length : Int) != (q.length : Int)) = false := by simp [hl]
    have HV1 := Lib.hid hv1
    have HV2 := Lib.hid hv2
    clear hl hv1 hv2
    go_enter Tryd.func32, Tryd.ntmps32
    go_wp2_with fail
    refine (valid_any _ p _ H1.out hp).mono ?_
    rintro e w1 ⟨rfl, hb⟩
    rw [HV1.out]
    go_wp2_with fail
    refine (valid_any _ q _ (H2.out.below hb) hq).mono ?_
    rintro e w2 ⟨rfl, hb2⟩
    rw [HV2.out]
    go_wp2
    go_ret
    exact ⟨ret_int HE.out.symm, hb.trans (hb2.mono hb.size)⟩
  · have e : errP p q = 2 := by unfold errP; rw [if_pos ⟨hv1, hv2⟩, if_neg hl]
    have HE := Lib.hid e
    have hlb : ((p.length : Int) != (q.length : Int)) = true := by simp; omega
    have HV1 := Lib.hid hv1
    have HV2 := Lib.hid hv2
    clear hl hv1 hv2 e
    go_enter Tryd.func32, Tryd.ntmps32
    go_wp2_with fail
    refine (valid_any _ p _ H1.out hp).mono ?_
    rintro e w1 ⟨rfl, hb⟩
    rw [HV1.out]
    go_wp2_with fail
    refine (valid_any _ q _ (H2.out.below hb) hq).mono ?_
    rintro e w2 ⟨rfl, hb2⟩
    rw [HV2.out]
    go_wp2
    go_ret
    exact ⟨ret_int HE.out.symm, hb.trans (hb2.mono hb.size)⟩

def mulE (p q : List Int) : List Int := if errP p q = 0 then mulL p q else []

set_option maxHeartbeats 400000 in
theorem Mul_any (v1 v2 : Value) (p q : List Int) (w : World) (h1 : Sl w v1 p) (h2 : Sl w v2 q) (hp : p.length ≤ 1000000) (hq : q.length ≤ 1000000) :
    Calls Tryd.prog 17 #[v1, v2] w fun e w' => ∃ v, e = .returned (.tuple #[v, .int .i64 (errP p q)]) ∧ Ow w.heap.size w' v (mulE p q) ∧ Below w.heap.size w w' := by
  have H1 := Lib.hid h1
  have H2 := Lib.hid h2
  obtain ⟨a, ca, rfl, _⟩ := h1
  obtain ⟨b, cb, rfl, _⟩ := h2
  by_cases he : errP p q = 0
  · obtain ⟨g1, g2, g3⟩ := errP_zero he
    have hr := inR_of_valid g1
    rw [g3] at hr
    have HR := Lib.hid hr
    have HE := Lib.hid he
    have hM : mulE p q = mulL p q := if_pos he
    have HM := Lib.hid hM
    clear he g1 g2 g3 hr hM
    go_enter Tryd.func17, Tryd.ntmps17
    go_wp2_with fail
    refine (pair_any _ _ p q _ H1.out H2.out hp hq).mono ?_
    rintro e w1 ⟨rfl, hb⟩
    rw [HE.out]
    go_wp2_with fail
    refine (mul_any _ _ p q _ (H1.out.below hb) (H2.out.below hb) hp hq HR.out).mono ?_
    rintro e w2 ⟨v, rfl, hO, hb2⟩
    have HO := Lib.hid hO
    clear hO
    go_wp2
    go_ret2
    exact ⟨v, by rw [HE.out]; rfl, by rw [HM.out]; exact HO.out.mono hb.size, hb.trans (hb2.mono hb.size)⟩
  · have hne : (errP p q != 0) = true := by rw [bne_iff_ne]; exact he
    have hM : mulE p q = [] := if_neg he
    have HM := Lib.hid hM
    clear he hM
    go_enter Tryd.func17, Tryd.ntmps17
    go_wp2_with fail
    refine (pair_any _ _ p q _ H1.out H2.out hp hq).mono ?_
    rintro e w1 ⟨rfl, hb⟩
    go_wp2
    go_ret2
    exact ⟨_, rfl, by rw [HM.out]; exact Ow.nil _ _, hb⟩

def commL (p q : List Int) : List Int := mulL (mulL (invL p) (invL q)) (mulL p q)
def commE (p q : List Int) : List Int := if errP p q = 0 then commL p q else []

set_option maxHeartbeats 1000000 in
theorem Comm_any (v1 v2 : Value) (p q : List Int) (w : World) (h1 : Sl w v1 p) (h2 : Sl w v2 q) (hp : p.length ≤ 1000000) (hq : q.length ≤ 1000000) :
    Calls Tryd.prog 18 #[v1, v2] w fun e w' => ∃ v, e = .returned (.tuple #[v, .int .i64 (errP p q)]) ∧ Ow w.heap.size w' v (commE p q) ∧ Below w.heap.size w w' := by
  have H1 := Lib.hid h1
  have H2 := Lib.hid h2
  obtain ⟨a, ca, rfl, _⟩ := h1
  obtain ⟨b, cb, rfl, _⟩ := h2
  by_cases he : errP p q = 0
  · obtain ⟨g1, g2, g3⟩ := errP_zero he
    have V1 := Lib.hid g1
    have V2 := Lib.hid g2
    have HL := Lib.hid g3
    have HE := Lib.hid he
    have HM := Lib.hid (show commE p q = commL p q from if_pos he)
    clear he g1 g2 g3
    go_enter Tryd.func18, Tryd.ntmps18
    go_wp2_with fail
    refine (pair_any _ _ p q _ H1.out H2.out hp hq).mono ?_
    rintro e w1 ⟨rfl, hb1⟩
    rw [HE.out]
    go_wp2_with fail
    refine (inverse_any _ p _ (H1.out.below hb1) hp (inR_of_valid V1.out)).mono ?_
    rintro e w2 ⟨x1, rfl, hO1, hb2⟩
    have HO1 := Lib.hid hO1
    have HB2 := Lib.hid (hb1.trans (hb2.mono hb1.size))
    clear hO1 hb2
    go_wp2_with fail
    refine (inverse_any _ q _ (H2.out.below HB2.out) hq (inR_of_valid V2.out)).mono ?_
    rintro e w3 ⟨x2, rfl, hO2, hb3⟩
    have HO1 := Lib.hid (HO1.out.below hb3)
    have HO2 := Lib.hid hO2
    have HB3 := Lib.hid (HB2.out.trans (hb3.mono HB2.out.size))
    clear hO2 hb3
    go_wp2_with fail
    refine (mul_any _ _ _ _ _ HO1.out.sl HO2.out.sl (by rw [length_invL]; exact hp) (by rw [length_invL]; exact hq) (by
      have := inR_of_valid (invL_valid V1.out)
      rwa [length_invL, HL.out, ← length_invL] at this)).mono ?_
    rintro e w4 ⟨x3, rfl, hO3, hb4⟩
    have HO3 := Lib.hid hO3
    have HB4 := Lib.hid (HB3.out.trans (hb4.mono HB3.out.size))
    clear hO3 hb4
    go_wp2_with fail
    refine (mul_any _ _ p q _ (H1.out.below HB4.out) (H2.out.below HB4.out) hp hq (by
      have := inR_of_valid V1.out
      rwa [HL.out] at this)).mono ?_
    rintro e w5 ⟨x4, rfl, hO4, hb5⟩
    have HO3 := Lib.hid (HO3.out.below hb5)
    have HO4 := Lib.hid hO4
    have HB5 := Lib.hid (HB4.out.trans (hb5.mono HB4.out.size))
    clear hO4 hb5
    go_wp2_with fail
    refine (mul_any _ _ _ _ _ HO3.out.sl HO4.out.sl (by rw [length_mulL, length_invL]; exact hp) (by rw [length_mulL]; exact hp) (by
      have := inR_of_valid (mulL_valid (invL_valid V1.out) (invL_valid V2.out) (by simp [length_invL, HL.out]))
      rwa [length_mulL, length_invL, ← length_mulL p q] at this)).mono ?_
    rintro e w6 ⟨x5, rfl, hO5, hb6⟩
    have HO5 := Lib.hid hO5
    have HB6 := Lib.hid (HB5.out.trans (hb6.mono HB5.out.size))
    clear hO5 hb6
    go_wp2
    go_ret2
    exact ⟨x5, by rw [HE.out]; rfl, by rw [HM.out]; exact HO5.out.mono HB5.out.size, HB6.out⟩
  · have hne : (errP p q != 0) = true := by rw [bne_iff_ne]; exact he
    have HM := Lib.hid (show commE p q = [] from if_neg he)
    clear he
    go_enter Tryd.func18, Tryd.ntmps18
    go_wp2_with fail
    refine (pair_any _ _ p q _ H1.out H2.out hp hq).mono ?_
    rintro e w1 ⟨rfl, hb⟩
    go_wp2
    go_ret2
    exact ⟨_, rfl, by rw [HM.out]; exact Ow.nil _ _, hb⟩

def errV (p : List Int) : Int := if validL p = true then 0 else 1
def invE (p : List Int) : List Int := if validL p = true then invL p else []

end Go.Proofs.YtcnkegcogepimaaDoor
