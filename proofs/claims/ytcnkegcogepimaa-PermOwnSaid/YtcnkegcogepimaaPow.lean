/- perm.Power, the reference's Order and Power, by their meaning. -/
import Derived.Test.YtcnkegcogepimaaProg
import Derived.Test.YtcnkegcogepimaaBase
import Derived.Test.YtcnkegcogepimaaRef
import Derived.Test.YtcnkegcogepimaaPair
import Derived.Test.YtcnkegcogepimaaOrder
import Derived.Test.YtcnkegcogepimaaPowL
import Derived.Test.YtcnkegcogepimaaLawB
namespace Go.Proofs.Ytcnkegcogepimaa
open Go.RowKit

theorem ordL_eq (p : List Int) : ordL p = ordL' p := by
  unfold ordL ordL' ordTo
  rw [List.take_length]
theorem ordL_dvd {p : List Int} (h : validL p = true) (k : Nat) : ordL p ∣ k ↔ powL p k = idL p.length := by rw [ordL_eq]; exact ord_dvd h k
theorem ordL_le {p : List Int} (h : validL p = true) : 1 ≤ ordL p ∧ ordL p ≤ 420 := ordTo_le h (Nat.le_refl _)

/-- the exponent that matters -/
def expL (p : List Int) (k : Int) : Nat := ((k.tmod (ordL p : Int) + (ordL p : Int)) % (ordL p : Int)).toNat
def powE (p : List Int) (k : Int) : List Int := if validL p = true then powL p (expL p k) else []

theorem tmod_bounds (k : Int) (o : Nat) (h : 1 ≤ o) : -(o : Int) < k.tmod (o : Int) ∧ k.tmod (o : Int) < (o : Int) := by
  have h1 := Int.tmod_lt_of_pos k (show (0 : Int) < o by omega)
  have h2 := Int.lt_tmod_of_pos k (show (0 : Int) < o by omega)
  omega

theorem pow_inR {p : List Int} (h : validL p = true) (j : Nat) : inR (powL p j) p.length := by
  have := inR_of_valid (powL_valid h j)
  rwa [length_powL] at this

set_option maxHeartbeats 1000000 in
theorem Power_any (v1 : Value) (p : List Int) (k : Int) (w : World) (h1 : Sl w v1 p) (hp : p.length ≤ 1000000) :
    Calls Try.prog 37 #[v1, .int .i64 k] w fun e w' => ∃ v, e = .returned (.tuple #[v, .int .i64 (errV p)]) ∧ Ow w.heap.size w' v (powE p k) ∧ Below w.heap.size w w' := by
  have H1 := Lib.hid h1
  obtain ⟨a, ca, rfl, _⟩ := h1
  rcases hv : validL p with _ | _
  · have V := Lib.hid hv
    have HM := Lib.hid (show powE p k = [] from if_neg (by rw [hv]; decide))
    have HE := Lib.hid (show errV p = 1 from if_neg (by rw [hv]; decide))
    clear hv
    go_enter Try.func37, Try.ntmps37
    go_wp2_with fail
    refine (valid_any _ p _ H1.out hp).mono ?_
    rintro e w1 ⟨rfl, hb⟩
    rw [V.out]
    go_wp2
    go_ret2
    exact ⟨_, by rw [HE.out]; rfl, by rw [HM.out]; exact Ow.nil _ _, hb⟩
  · have V := Lib.hid hv
    have HM := Lib.hid (show powE p k = powL p (expL p k) from if_pos hv)
    have HE := Lib.hid (show errV p = 0 from if_pos hv)
    obtain ⟨o1, o2⟩ := ordL_le hv
    obtain ⟨o, ho⟩ : ∃ o, o = ordL p := ⟨_, rfl⟩
    rw [← ho] at o1 o2
    obtain ⟨m1, m2⟩ := tmod_bounds k o o1
    have e0 : 0 ≤ (k.tmod (o : Int) + (o : Int)) % (o : Int) := Int.emod_nonneg _ (by omega)
    have e1 : (k.tmod (o : Int) + (o : Int)) % (o : Int) < (o : Int) := Int.emod_lt_of_pos _ (by omega)
    obtain ⟨E, hE⟩ := Int.eq_ofNat_of_zero_le e0
    have HX : Hid (expL p k = E) := Lib.hid (by unfold expL; rw [← ho, hE]; rfl)
    have hE7 : E ≤ 420 := by omega
    have HO := Lib.hid ho
    clear hv ho e0 e1
    go_enter Try.func37, Try.ntmps37
    go_wp2_with fail
    refine (valid_any _ p _ H1.out hp).mono ?_
    rintro e w1 ⟨rfl, b1⟩
    rw [V.out]
    go_wp2_with fail
    refine (order_yes _ p _ (H1.out.below b1) V.out).mono ?_
    rintro e w2 ⟨rfl, b2⟩
    rw [← HO.out]
    have B2 := Lib.hid (b1.trans (b2.mono b1.size))
    clear b1 b2
    go_wp2_with fail
    refine (identity_any p.length _ hp).mono ?_
    rintro e w3 ⟨x, rfl, O, b3⟩
    have O := Lib.hid (O.mono B2.out.size)
    have B3 := Lib.hid (B2.out.trans (b3.mono B2.out.size))
    clear b3
    go_wp2
    go_loopw [7, 24] (fun v i wr => ∃ j : Nat, j ≤ E ∧ i = .int .i64 j ∧ Hid (Ow w.heap.size wr v (powL p j)) ∧ Hid (Below w.heap.size w wr)) (fun _ i _ => E - (intOf i).toNat)
    case atStart => exact ⟨0, Nat.zero_le _, rfl, O, B3⟩
    case round =>
      clear O B3
      obtain ⟨j, hj, rfl, O, B⟩ := hrel
      by_cases hlt : j < E
      · go_wp2_with fail
        refine (mul_any _ _ _ p _ O.out.sl (H1.out.below B.out) (by rw [length_powL]; exact hp) hp (pow_inR V.out j)).mono ?_
        rintro e w4 ⟨y, rfl, O2, b4⟩
        have O2 : Hid (Ow w.heap.size w4 y (powL p (j + 1))) := Lib.hid (O2.mono B.out.size)
        have B4 := Lib.hid (B.out.trans (b4.mono B.out.size))
        clear b4
        go_wp2
        go_roundw
        case rel => exact ⟨j + 1, by omega, by go_num, O2, B4⟩
        case measure => simp [intOf]; omega
      · have hje : j = E := by omega
        have hlt' : E ≤ j := by omega
        have O3 : Hid (Ow w.heap.size wr u7 (powE p k)) := Lib.hid (by rw [HM.out, HX.out, ← hje]; exact O.out)
        clear hje
        go_wp2
        go_ret2
        exact ⟨_, by rw [HE.out]; rfl, O3.out, B.out⟩

set_option maxHeartbeats 1000000 in
theorem reford_any (v1 : Value) (p : List Int) (w : World) (h1 : Sl w v1 p) (hv : validL p = true) :
    Calls Try.prog 22 #[v1] w fun e w' => e = .returned (.int .i64 (ordL p)) ∧ Below w.heap.size w w' := by
  have H1 := Lib.hid h1
  obtain ⟨a, ca, rfl, hcs⟩ := h1
  have V := Lib.hid hv
  have hp := valid_small hv
  obtain ⟨o1, o2⟩ := ordL_le hv
  obtain ⟨o, ho⟩ : ∃ o, o = ordL p := ⟨_, rfl⟩
  rw [← ho] at o1 o2
  have HO := Lib.hid ho
  clear hv ho hcs
  go_enter Try.func22, Try.ntmps22
  go_wp2
  go_loopw [3, 4] (fun i v wr => ∃ j : Nat, 1 ≤ j ∧ j ≤ o ∧ i = .int .i64 j ∧ Hid (Sl wr v (powL p j)) ∧ Hid (Below w.heap.size w wr)) (fun i _ _ => o - (intOf i).toNat)
  case atStart => exact ⟨1, Nat.le_refl _, o1, rfl, Lib.hid (by rw [powL_one]; exact H1.out), Lib.hid (Below.refl _ _)⟩
  case round =>
    obtain ⟨j, hj1, hj, rfl, O, B⟩ := hrel
    obtain ⟨aq, cq, hq, _⟩ := O.out
    by_cases hjo : j = o
    · have hd : decide (powL p j = idL p.length) = true := decide_eq_true ((ordL_dvd V.out j).1 (by rw [hjo, HO.out]; exact Nat.dvd_refl _))
      have HD := Lib.hid hd
      have HJ := Lib.hid hjo
      clear hd hjo hq
      go_wp2_with fail
      refine (refid_blk p.length _ hp).mono ?_
      rintro e w2 ⟨rfl, hB, b2⟩
      have O2 := Lib.hid (Ow.of_blk hB (Nat.le_refl _) (by rw [length_idL]; exact hp) p.length (length_idL _).symm).sl
      have O3 := Lib.hid (O.out.below b2)
      have B2 := Lib.hid (B.out.trans (b2.mono B.out.size))
      clear hB b2
      go_wp2_with fail
      refine (same_any _ _ _ _ _ O3.out O2.out (by rw [length_powL]; exact hp) (by rw [length_idL]; exact hp)).mono ?_
      rintro e w3 ⟨rfl, n3, rfl⟩
      rw [HD.out]
      have B3 := Lib.hid (below_drewN' B2.out n3)
      go_wp2
      go_ret
      exact ⟨ret_int (by rw [← HO.out, HJ.out]), B3.out⟩
    · have hd : decide (powL p j = idL p.length) = false := decide_eq_false (fun e => by
        have := Nat.le_of_dvd (by omega) ((ordL_dvd V.out j).2 e)
        rw [← HO.out] at this
        omega)
      have HD := Lib.hid hd
      have hjl : j + 1 ≤ o := by omega
      clear hd hjo hq
      go_wp2_with fail
      refine (refid_blk p.length _ hp).mono ?_
      rintro e w2 ⟨rfl, hB, b2⟩
      have O2 := Lib.hid (Ow.of_blk hB (Nat.le_refl _) (by rw [length_idL]; exact hp) p.length (length_idL _).symm).sl
      have O3 := Lib.hid (O.out.below b2)
      have B2 := Lib.hid (B.out.trans (b2.mono B.out.size))
      clear hB b2
      go_wp2_with fail
      refine (same_any _ _ _ _ _ O3.out O2.out (by rw [length_powL]; exact hp) (by rw [length_idL]; exact hp)).mono ?_
      rintro e w3 ⟨rfl, n3, rfl⟩
      rw [HD.out]
      have B3 := Lib.hid (below_drewN' B2.out n3)
      have O4 := Lib.hid (O3.out.below (below_drewN' (Below.refl _ _) n3))
      go_wp2_with fail
      obtain ⟨u3, hu3⟩ : ∃ u, u = w2.drewN n3 := ⟨_, rfl⟩
      rw [← hu3] at O4 B3 ⊢
      clear hu3
      refine (refmul_any _ _ _ p _ O4.out (H1.out.below B3.out) (by rw [length_powL]; exact hp) hp (pow_inR V.out j)).mono ?_
      rintro e w4 ⟨y, rfl, O5, b4⟩
      have O6 : Hid (Sl w4 y (powL p (j + 1))) := Lib.hid O5.sl
      have B4 := Lib.hid (B3.out.trans (b4.mono B3.out.size))
      clear b4 O5
      go_wp2
      go_roundw
      case rel => exact ⟨j + 1, by omega, hjl, by go_num, O6, B4⟩
      case measure => simp [intOf]; omega

set_option maxHeartbeats 1000000 in
theorem refpow_any (v1 : Value) (p : List Int) (k : Int) (w : World) (h1 : Sl w v1 p) (hv : validL p = true) :
    Calls Try.prog 38 #[v1, .int .i64 k] w fun e w' => ∃ v, e = .returned v ∧ Ow w.heap.size w' v (powL p (expL p k)) ∧ Below w.heap.size w w' := by
  have H1 := Lib.hid h1
  obtain ⟨a, ca, rfl, _⟩ := h1
  have V := Lib.hid hv
  have hp := valid_small hv
  obtain ⟨o1, o2⟩ := ordL_le hv
  obtain ⟨o, ho⟩ : ∃ o, o = ordL p := ⟨_, rfl⟩
  rw [← ho] at o1 o2
  obtain ⟨m1, m2⟩ := tmod_bounds k o o1
  have e0 : 0 ≤ (k.tmod (o : Int) + (o : Int)) % (o : Int) := Int.emod_nonneg _ (by omega)
  have e1 : (k.tmod (o : Int) + (o : Int)) % (o : Int) < (o : Int) := Int.emod_lt_of_pos _ (by omega)
  obtain ⟨E, hE⟩ := Int.eq_ofNat_of_zero_le e0
  have HX : Hid (expL p k = E) := Lib.hid (by unfold expL; rw [← ho, hE]; rfl)
  have hE7 : E ≤ 420 := by omega
  have HO := Lib.hid ho
  clear hv ho e0 e1
  go_enter Try.func38, Try.ntmps38
  go_wp2_with fail
  refine (reford_any _ p _ H1.out V.out).mono ?_
  rintro e w2 ⟨rfl, b2⟩
  rw [← HO.out]
  have B2 := Lib.hid b2
  clear b2
  go_wp2_with fail
  refine (refid_blk p.length _ hp).mono ?_
  rintro e w3 ⟨rfl, hB, b3⟩
  have O := Lib.hid (Ow.of_blk hB B2.out.size (by rw [length_idL]; exact hp) p.length (length_idL _).symm)
  have B3 := Lib.hid (B2.out.trans (b3.mono B2.out.size))
  clear hB b3
  go_wp2
  go_loopw [6, 7] (fun v i wr => ∃ j : Nat, j ≤ E ∧ i = .int .i64 j ∧ Hid (Ow w.heap.size wr v (powL p j)) ∧ Hid (Below w.heap.size w wr)) (fun _ i _ => E - (intOf i).toNat)
  case atStart => exact ⟨0, Nat.zero_le _, rfl, O, B3⟩
  case round =>
    clear O B3
    obtain ⟨j, hj, rfl, O, B⟩ := hrel
    by_cases hlt : j < E
    · go_wp2_with fail
      refine (refmul_any _ _ _ p _ O.out.sl (H1.out.below B.out) (by rw [length_powL]; exact hp) hp (pow_inR V.out j)).mono ?_
      rintro e w4 ⟨y, rfl, O2, b4⟩
      have O2 : Hid (Ow w.heap.size w4 y (powL p (j + 1))) := Lib.hid (O2.mono B.out.size)
      have B4 := Lib.hid (B.out.trans (b4.mono B.out.size))
      clear b4
      go_wp2
      go_roundw
      case rel => exact ⟨j + 1, by omega, by go_num, O2, B4⟩
      case measure => simp [intOf]; omega
    · have hje : j = E := by omega
      have hlt' : E ≤ j := by omega
      have O3 : Hid (Ow w.heap.size wr u6 (powL p (expL p k))) := Lib.hid (by rw [HX.out, ← hje]; exact O.out)
      clear hje
      go_wp2
      go_ret
      exact ⟨_, rfl, O3.out, B.out⟩

end Go.Proofs.Ytcnkegcogepimaa
