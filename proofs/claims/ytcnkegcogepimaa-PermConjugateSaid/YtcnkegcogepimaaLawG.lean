/- The walks of the statements' own functions, seventh part: PermOrder. -/
import Derived.Test.YtcnkegcogepimaaProg
import Derived.Test.YtcnkegcogepimaaBase
import Derived.Test.YtcnkegcogepimaaRef
import Derived.Test.YtcnkegcogepimaaPow
import Derived.Test.YtcnkegcogepimaaLawB
import Derived.Test.YtcnkegcogepimaaLawD
import Derived.Test.YtcnkegcogepimaaCycs2
import Derived.Test.YtcnkegcogepimaaRefB
import Derived.Test.YtcnkegcogepimaaLawF
import Derived.Test.YtcnkegcogepimaaSgn
namespace Go.Proofs.Ytcnkegcogepimaa
open Go.RowKit

def lcT (L : List (List Int)) (i : Nat) : Nat := (L.take i).foldl (fun o c => Nat.lcm o c.length) 1
theorem lcT_succ (L : List (List Int)) (i : Nat) (hi : i < L.length) : lcT L (i + 1) = Nat.lcm (lcT L i) (L.getD i []).length := by
  unfold lcT
  rw [List.take_succ_eq_append_getElem hi, List.foldl_append]
  simp [hi]
theorem long_mem {p : List Int} (h : validL p = true) {c : List Int} (hc : c ∈ longL p) : 2 ≤ c.length ∧ c.length ≤ 7 ∧ c.length ∣ ordL p := by
  obtain ⟨h1, h2⟩ := List.mem_filter.1 hc
  obtain ⟨j, hj, e⟩ := List.getElem_of_mem h1
  have := cyc_len h hj
  simp [hj, e] at this
  have h3 := of_decide_eq_true h2
  refine ⟨by omega, by omega, ?_⟩
  rw [ordL_eq]
  exact (foldl_lcm (cyc p) 1).2.1 c h1
theorem long_get {p : List Int} (h : validL p = true) {i : Nat} (hi : i < (longL p).length) : 2 ≤ ((longL p).getD i []).length ∧ ((longL p).getD i []).length ≤ 7 ∧ ((longL p).getD i []).length ∣ ordL p :=
  long_mem h (by simp [hi])
theorem lcT_bounds {p : List Int} (h : validL p = true) (i : Nat) : 1 ≤ lcT (longL p) i ∧ lcT (longL p) i ≤ 420 := by
  have hd : lcT (longL p) i ∣ ordL p := (foldl_lcm ((longL p).take i) 1).2.2 _ (Nat.one_dvd _) (fun c hc => (long_mem h (List.mem_of_mem_take hc)).2.2)
  have ho := ordL_le h
  exact ⟨Nat.pos_of_dvd_of_pos hd (by omega), Nat.le_trans (Nat.le_of_dvd (by omega) hd) ho.2⟩
theorem lcT_all {p : List Int} (h : validL p = true) : lcT (longL p) (longL p).length = ordL p := by
  unfold lcT
  rw [List.take_length, ordL_eq]
  refine lcm_long (cyc p) 1 (fun c hc => ?_)
  obtain ⟨j, hj, e⟩ := List.getElem_of_mem hc
  have := cyc_len h hj
  simp [hj, e] at this
  omega
theorem pow_one_iff {p : List Int} (h : validL p = true) (k : Int) : decide (powE p k = idL p.length) = (k.tmod (ordL p : Int) == 0) := by
  obtain ⟨o1, o2⟩ := ordL_le h
  rw [show powE p k = powL p (expL p k) from if_pos h]
  have e0 : 0 ≤ (k.tmod (ordL p : Int) + (ordL p : Int)) % (ordL p : Int) := Int.emod_nonneg _ (by omega)
  have e1 : (k.tmod (ordL p : Int) + (ordL p : Int)) % (ordL p : Int) < (ordL p : Int) := Int.emod_lt_of_pos _ (by omega)
  have m := tmod_bounds k (ordL p) o1
  have key : ordL p ∣ expL p k ↔ k.tmod (ordL p : Int) = 0 := by
    have hx : ((expL p k : Nat) : Int) = (k.tmod (ordL p : Int) + (ordL p : Int)) % (ordL p : Int) := by unfold expL; omega
    constructor
    · intro hd
      have : expL p k = 0 := Nat.eq_zero_of_dvd_of_lt hd (by omega)
      rw [this] at hx
      by_cases hneg : k.tmod (ordL p : Int) < 0
      · rw [Int.emod_eq_of_lt (by omega) (by omega)] at hx
        omega
      · rw [Int.add_emod_right, Int.emod_eq_of_lt (by omega) (by omega)] at hx
        omega
    · intro h0
      rw [h0, Int.zero_add, Int.emod_self] at hx
      rw [show expL p k = 0 by omega]
      exact Nat.dvd_zero _
  have hb : ((k.tmod (ordL p : Int) == 0) = true) ↔ k.tmod (ordL p : Int) = 0 := by simp
  rw [Bool.eq_iff_iff, decide_eq_true_iff, hb, ← ordL_dvd h]
  exact key

set_option maxHeartbeats 4000000 in
theorem order_law (v1 v2 : Value) (p q : List Int) (k : Int) (w : World) (h1 : Sl w v1 p) (h2 : Sl w v2 q) :
    Calls Try.prog 9 #[v1, v2, .int .i64 k] w fun e w' => e = .returned (.bool true) ∧ Below w.heap.size w w' := by
  have H1 := Lib.hid h1
  have H2 := Lib.hid h2
  obtain ⟨a, ca, rfl, _⟩ := h1
  obtain ⟨b, cb, rfl, _⟩ := h2
  have HS := Lib.hid (sls_two w a b p.length ca q.length cb)
  have B0 := Lib.hid ((Below.refl _ w).alloc (Nat.le_refl _) (.cells #[.slice a p.length ca, .slice b q.length cb] 23))
  have hall : ∀ i, i < [Value.slice a p.length ca, .slice b q.length cb].length → Sl (w.alloc (.cells #[.slice a p.length ca, .slice b q.length cb] 23)) ([Value.slice a p.length ca, .slice b q.length cb].getD i undef) ([p, q].getD i []) := fun i hi => by
    match i, hi with
    | 0, _ => exact H1.out.below B0.out
    | 1, _ => exact H2.out.below B0.out
  have HA := Lib.hid hall
  clear hall
  rcases hu : usableB [p, q] with _ | _
  · have HU := Lib.hid hu
    clear hu
    go_enter Try.func9, Try.ntmps9
    go_wp2_with fail
    refine (usable_any _ _ [p, q] _ HS.out (by simp) rfl HA.out).mono ?_
    rintro e w1 ⟨rfl, b1⟩
    rw [HU.out]
    have B1 := Lib.hid (B0.out.trans (b1.mono B0.out.size))
    clear b1
    go_wp2_with fail
    refine (alive_any _).mono ?_
    rintro e w2 ⟨rfl, b2⟩
    have B2 := Lib.hid (B1.out.trans (b2.mono B1.out.size))
    clear b2
    go_wp2
    go_ret
    exact ⟨rfl, B2.out⟩
  · obtain ⟨vp, vq, lq⟩ := usableB_two hu
    have HU := Lib.hid hu
    have hn1 : 1 ≤ p.length := ((validL_iff p).1 vp).1
    have hn7 : p.length ≤ 7 := ((validL_iff p).1 vp).2.1
    have hp : p.length ≤ 1000000 := by omega
    have hq : q.length ≤ 1000000 := by omega
    have E1 := Lib.hid (errP_ok vp vq lq.symm)
    have E0 := Lib.hid (show commE p q = commL p q from if_pos E1.out)
    have V1 := Lib.hid (show errV p = 0 from if_pos vp)
    have VP := Lib.hid vp
    have VQ := Lib.hid vq
    have VM := Lib.hid (mulL_valid vp vq lq.symm)
    have VC : Hid (validL (commL p q) = true) := Lib.hid (mulL_valid (mulL_valid (invL_valid vp) (invL_valid vq) (by rw [length_invL, length_invL]; exact lq.symm)) VM.out (by rw [length_mulL, length_mulL, length_invL]))
    have PC : Hid (parL (commL p q) = 0) := Lib.hid (par_comm vp vq lq.symm)
    have PM := par_mul vp vq lq.symm
    have pp : parL p < 2 := Nat.mod_lt _ (by decide)
    have pq : parL q < 2 := Nat.mod_lt _ (by decide)
    have PA : Hid ((parL p = 0 ∧ parL q = 0 ∧ parL (mulL p q) = 0) ∨ (parL p = 0 ∧ parL q = 1 ∧ parL (mulL p q) = 1) ∨ (parL p = 1 ∧ parL q = 0 ∧ parL (mulL p q) = 1) ∨ (parL p = 1 ∧ parL q = 1 ∧ parL (mulL p q) = 0)) := Lib.hid (by omega)
    obtain ⟨o1, o2⟩ := ordL_le vp
    have KO := pow_one_iff vp k
    have hpl : (powE p k).length ≤ 1000000 := by rw [show powE p k = powL p (expL p k) from if_pos vp, length_powL]; exact hp
    have hil : (idL p.length).length ≤ 1000000 := by rw [length_idL]; exact hp
    obtain ⟨K1, K2⟩ := longL_bounds vp
    obtain ⟨o, ho⟩ : ∃ o, o = ordL p := ⟨_, rfl⟩
    rw [← ho] at o1 o2 KO
    obtain ⟨m1, m2⟩ := tmod_bounds k o o1
    obtain ⟨bb, hbb⟩ : ∃ bb : Bool, (k.tmod (o : Int) == 0) = bb := ⟨_, rfl⟩
    rw [hbb] at KO
    have KO := Lib.hid KO
    have HO := Lib.hid ho
    have K2 := Lib.hid K2
    have HPL := Lib.hid hpl
    have HIL := Lib.hid hil
    have hlo : decide ((o : Int) < 1) = false := by simp; omega
    clear hu vp vq lq PM pp pq ho hpl hil
    go_enter Try.func9, Try.ntmps9
    go_wp2_with fail
    refine (usable_any _ _ [p, q] _ HS.out (by simp) rfl HA.out).mono ?_
    rintro e w1 ⟨rfl, b1⟩
    rw [HU.out]
    have B1 := Lib.hid (B0.out.trans (b1.mono B0.out.size))
    clear b1
    go_wp2_with fail
    refine (Identity_ok p.length _ hn1 hn7).mono ?_
    rintro e w2 ⟨one, rfl, O1, b2⟩
    have O1 := Lib.hid O1
    have B2 := Lib.hid (B1.out.trans (b2.mono B1.out.size))
    clear b2
    go_wp2_with fail
    refine (Power_any _ p k _ (H1.out.below B2.out) hp).mono ?_
    rintro e w3 ⟨x, rfl, O2, b3⟩
    rw [V1.out]
    have O1 := Lib.hid (O1.out.below b3)
    have O2 := Lib.hid O2
    have B3 := Lib.hid (B2.out.trans (b3.mono B2.out.size))
    clear b3
    go_wp2_with fail
    refine (order_yes _ p _ (H1.out.below B3.out) VP.out).mono ?_
    rintro e w4 ⟨rfl, b4⟩
    rw [← HO.out]
    have O1 := Lib.hid (O1.out.below b4)
    have O2 := Lib.hid (O2.out.below b4)
    have B4 := Lib.hid (B3.out.trans (b4.mono B3.out.size))
    clear b4
    go_wp2_with fail
    refine (cycles_yes _ p _ (H1.out.below B4.out) VP.out).mono ?_
    rintro e w5 ⟨l, rfl, C, b5⟩
    have O1 := Lib.hid (O1.out.below b5)
    have O2 := Lib.hid (O2.out.below b5)
    have B5 := Lib.hid (B4.out.trans (b5.mono B4.out.size))
    have C := Lib.hid C.slls
    clear b5
    obtain ⟨al, cl, rfl, hl⟩ := C.out
    have hsame : ∀ m, Calls Try.prog 42 #[x, one] (w5.drewN m) fun e w'' => e = .returned (.bool bb) ∧ ∃ d, w'' = (w5.drewN m).drewN d := fun m =>
      (same_any x one _ _ (w5.drewN m) (O2.out.sl.drewN m) (O1.out.sl.drewN m) HPL.out HIL.out).mono fun e w'' ⟨he, hw⟩ => ⟨by rw [he, KO.out], hw⟩
    have HSame := Lib.hid hsame
    have HL := Lib.hid hl
    clear hsame hl
    go_wp2
    go_quiet ((go_at_call 42; exact Calls.quiet_of (HSame.out _)))
    have B5 := Lib.hid (below_drewN' B5.out nq)
    go_wp2
    go_loop [13, 14, 15] (fun c i _ => ∃ j : Nat, j ≤ (longL p).length ∧ i = .int .i64 j ∧ c = .int .i64 (lcT (longL p) j)) (fun _ i _ => (longL p).length - (intOf i).toNat)
    case atStart => exact ⟨0, Nat.zero_le _, rfl, rfl⟩
    case round =>
      obtain ⟨j, hj, rfl, rfl⟩ := hrel
      by_cases hlt : j < (longL p).length
      · rcases HL.out with h | ⟨bl, ol, e, hc⟩
        · simp [h] at hlt
        obtain ⟨z, g1, s1⟩ := hc j hlt
        obtain ⟨za, zc, rfl, _⟩ := s1
        subst e
        obtain ⟨n2, n7, nd⟩ := long_get VP.out hlt
        rw [← HO.out] at nd
        have hsucc := lcT_succ (longL p) j hlt
        obtain ⟨t1, t2⟩ := lcT_bounds VP.out j
        obtain ⟨u1, u2⟩ := lcT_bounds VP.out (j + 1)
        obtain ⟨n, hn⟩ : ∃ n, n = ((longL p).getD j []).length := ⟨_, rfl⟩
        obtain ⟨A, hA⟩ : ∃ A, A = lcT (longL p) j := ⟨_, rfl⟩
        obtain ⟨M, hM⟩ : ∃ M, M = lcT (longL p) (j + 1) := ⟨_, rfl⟩
        rw [← hn] at g1 n2 n7 nd
        rw [← hn, ← hA, ← hM] at hsucc
        rw [← hA] at t1 t2 ⊢
        rw [← hM] at u1 u2
        have hn0 : ((n : Int) == 0) = false := by simp; omega
        have hom : (o : Int) % (n : Int) = 0 := Int.emod_eq_zero_of_dvd (Int.natCast_dvd_natCast.2 nd)
        have hod : ((o : Int) % (n : Int) != 0) = false := by simp [hom]
        have hAM : A ≤ M := Nat.le_of_dvd (by omega) (by rw [hsucc]; exact Nat.dvd_lcm_left A n)
        have HM := Lib.hid hM
        have HSucc := Lib.hid hsucc
        clear hc hn hA hM hsucc hom nd
        go_wp2
        go_loop [15] (fun i => ∃ m : Nat, 1 ≤ m ∧ m ≤ M ∧ Hid (A ∣ m) ∧ i = .int .i64 m) (fun i => M - (intOf i).toNat)
        case atStart => exact ⟨A, t1, hAM, Lib.hid (Nat.dvd_refl A), rfl⟩
        case round =>
          obtain ⟨m, hm1, hml, hd, rfl⟩ := hrel
          by_cases hz : m % n = 0
          · have hr : ((m : Int) % (n : Int) != 0) = false := by simp; omega
            have hme : m = M := by
              have h1 : Nat.lcm A n ∣ m := Nat.lcm_dvd hd.out (Nat.dvd_of_mod_eq_zero hz)
              have := Nat.le_of_dvd (by omega) h1
              rw [← HSucc.out] at this
              omega
            have HME := Lib.hid hme
            clear hz hme
            go_wp2
            go_round
            case rel => exact ⟨j + 1, by omega, by go_num, by rw [← HM.out, HME.out]⟩
            case measure => simp [intOf]; omega
          · have hr : ((m : Int) % (n : Int) != 0) = true := by simp; omega
            have hs := dvd_step A n m hd.out (by rw [← HSucc.out]; exact hml) hz
            rw [← HSucc.out] at hs
            clear hz
            go_wp2
            go_round
            case rel => exact ⟨m + A, by omega, hs, Lib.hid (Nat.dvd_add hd.out (Nat.dvd_refl A)), by go_num⟩
            case measure => simp [intOf]; omega
      · have hje : j = (longL p).length := by omega
        have hlt' : (longL p).length ≤ j := by omega
        have hc : lcT (longL p) j = o := by rw [hje, lcT_all VP.out, HO.out]
        rw [hc]
        clear hc hje
        go_wp2_with fail
        refine (Comm_any _ _ p q _ (H1.out.below B5.out) (H2.out.below B5.out) hp hq).mono ?_
        rintro e w6 ⟨c, rfl, O3, b6⟩
        rw [E1.out]
        rw [E0.out] at O3
        have O3 := Lib.hid O3
        have B6 := Lib.hid (B5.out.trans (b6.mono B5.out.size))
        clear b6
        go_wp2_with fail
        refine (parity_yes _ _ _ O3.out.sl VC.out).mono ?_
        rintro e w7 ⟨rfl, b7⟩
        rw [PC.out]
        have B7 := Lib.hid (B6.out.trans (b7.mono B6.out.size))
        clear b7
        go_wp2_with fail
        refine (lawmul _ _ p q _ (H1.out.below B7.out) (H2.out.below B7.out) E1.out).mono ?_
        rintro e w8 ⟨y, rfl, O4, b8⟩
        have O4 := Lib.hid O4
        have B8 := Lib.hid (B7.out.trans (b8.mono B7.out.size))
        clear b8
        go_wp2_with fail
        refine (parity_yes _ _ _ O4.out.sl VM.out).mono ?_
        rintro e w9 ⟨rfl, b9⟩
        have B9 := Lib.hid (B8.out.trans (b9.mono B8.out.size))
        clear b9
        go_wp2_with fail
        refine (parity_yes _ _ _ (H1.out.below B9.out) VP.out).mono ?_
        rintro e w10 ⟨rfl, b10⟩
        have B10 := Lib.hid (B9.out.trans (b10.mono B9.out.size))
        clear b10
        go_wp2_with fail
        refine (parity_yes _ _ _ (H2.out.below B10.out) VQ.out).mono ?_
        rintro e w11 ⟨rfl, b11⟩
        have B11 := Lib.hid (B10.out.trans (b11.mono B10.out.size))
        clear b11
        rcases PA.out with ⟨e1, e2, e3⟩ | ⟨e1, e2, e3⟩ | ⟨e1, e2, e3⟩ | ⟨e1, e2, e3⟩
        all_goals rw [e1, e2, e3]
        all_goals clear e1 e2 e3
        all_goals go_wp2_with fail
        all_goals refine (alive_any _).mono ?_
        all_goals rintro e w12 ⟨rfl, b12⟩
        all_goals have B12 := Lib.hid (B11.out.trans (b12.mono B11.out.size))
        all_goals clear b12
        all_goals go_wp2
        all_goals go_ret
        all_goals exact ⟨rfl, B12.out⟩
end Go.Proofs.Ytcnkegcogepimaa
