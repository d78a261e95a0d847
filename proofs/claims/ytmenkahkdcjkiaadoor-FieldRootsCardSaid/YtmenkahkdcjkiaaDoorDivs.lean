/- field.maximalDivisors: the quotients of n by its prime divisors. -/
import Derived.Test.YtmenkahkdcjkiaaDoorProg
import Derived.Test.YtmenkahkdcjkiaaDoorBase
import Derived.Test.YtmenkahkdcjkiaaDoorCyc
import Derived.Maps.AppendAt
namespace Go.Proofs.YtmenkahkdcjkiaaDoor
open Go.RowKit

theorem infoI : (Tryd.prog.info? 3).map (fun i => (i.zero, i.size, i.bytes)) = some (some (.int .i64 0), 1, 8) := by kernel_rfl

/-- what maximalDivisors keeps: the primes below d are met -/
def dfit (n d r : Nat) (L : List Nat) : Prop := 1 ≤ r ∧ r ∣ n ∧ (∀ e, 2 ≤ e → e < d → ¬ e ∣ r) ∧ (∀ p, p ∈ L → Pr p ∧ p ∣ n) ∧ (∀ p, Pr p → p ∣ n → p ∈ L ∨ p ∣ r) ∧ L.length + 2 ≤ d
theorem dfit_start {n : Nat} (hn : 1 ≤ n) : dfit n 2 n [] := ⟨hn, Nat.dvd_refl n, fun e h1 h2 => by omega, fun p hp => by simp at hp, fun p _ h => .inr h, by simp⟩
theorem dfit_le {n d r : Nat} {L : List Nat} (h : dfit n d r L) (hr : 1 < r) : d ≤ r := by
  by_cases hh : d ≤ r
  · exact hh
  · exact absurd (Nat.dvd_refl r) (h.2.2.1 r (by omega) (by omega))
theorem dfit_skip {n d r : Nat} {L : List Nat} (h : dfit n d r L) (hd : ¬ d ∣ r) : dfit n (d + 1) r L := by
  obtain ⟨h1, h2, h3, h4, h5, h6⟩ := h
  refine ⟨h1, h2, fun e e1 e2 => ?_, h4, h5, by omega⟩
  by_cases he : e = d
  · subst he; exact hd
  · exact h3 e e1 (by omega)
theorem dfit_pr {n d r : Nat} {L : List Nat} (h : dfit n d r L) (h2 : 2 ≤ d) (hd : d ∣ r) : Pr d := by
  refine ⟨h2, fun e he => ?_⟩
  by_cases h1 : e = 1
  · exact .inl h1
  · have := Nat.le_of_dvd (by omega) he
    by_cases hed : e = d
    · exact .inr hed
    · have h0 : e ≠ 0 := fun h0 => by subst h0; have := Nat.eq_zero_of_zero_dvd he; omega
      exact absurd (Nat.dvd_trans he hd) (h.2.2.1 e (by omega) (by omega))
/-- what the inner loop keeps -/
def ifit (d r0 r : Nat) : Prop := 1 ≤ r ∧ r ∣ r0 ∧ ∀ p, Pr p → p ≠ d → p ∣ r0 → p ∣ r
theorem ifit_start {d r : Nat} (h : 1 ≤ r) : ifit d r r := ⟨h, Nat.dvd_refl r, fun _ _ _ h => h⟩
theorem ifit_next {d r0 r : Nat} (hp : Pr d) (h : ifit d r0 r) (hd : d ∣ r) : ifit d r0 (r / d) ∧ r / d < r := by
  obtain ⟨h1, h2, h3⟩ := h
  obtain ⟨c, rfl⟩ := hd
  have h0 : 0 < d := by have := hp.1; omega
  rw [Nat.mul_div_cancel_left c h0]
  have hc : c ≠ 0 := fun e => by subst e; simp at h1
  refine ⟨⟨by omega, Nat.dvd_trans (Nat.dvd_mul_left c d) h2, fun p hpp hne hpr => ?_⟩, ?_⟩
  · rcases hpp.mul (h3 p hpp hne hpr) with h | h
    · exact absurd (hp.eq hpp h) hne
    · exact h
  · have := Nat.mul_le_mul_right c hp.1; omega
theorem dfit_next {n d r r' : Nat} {L : List Nat} (h : dfit n d r L) (h2 : 2 ≤ d) (hd : d ∣ r) (hi : ifit d r r') (hn : ¬ d ∣ r') : dfit n (d + 1) r' (L ++ [d]) := by
  have hp := dfit_pr h h2 hd
  obtain ⟨h1, g2, h3, h4, h5, h6⟩ := h
  obtain ⟨i1, i2, i3⟩ := hi
  refine ⟨i1, Nat.dvd_trans i2 g2, fun e e1 e2 he => ?_, fun p hm => ?_, fun p hpp hpn => ?_, by simp; omega⟩
  · by_cases hed : e = d
    · subst hed; exact hn he
    · exact h3 e e1 (by omega) (Nat.dvd_trans he i2)
  · rcases List.mem_append.1 hm with hm | hm
    · exact h4 p hm
    · simp at hm; subst hm; exact ⟨hp, Nat.dvd_trans hd g2⟩
  · rcases h5 p hpp hpn with h | h
    · exact .inl (List.mem_append.2 (.inl h))
    · by_cases hed : p = d
      · subst hed; exact .inl (List.mem_append.2 (.inr (by simp)))
      · exact .inr (i3 p hpp hed h)
/-- the primes of n -/
def PrL (n : Nat) (L : List Nat) : Prop := (∀ p, p ∈ L → Pr p ∧ p ∣ n) ∧ (∀ p, Pr p → p ∣ n → p ∈ L)
theorem dfit_end {n d : Nat} {L : List Nat} (h : dfit n d 1 L) : PrL n L := ⟨h.2.2.2.1, fun p hp hn => by
  rcases h.2.2.2.2.1 p hp hn with h | h
  · exact h
  · rw [Nat.dvd_one] at h; have := hp.1; omega⟩
/-- the quotients -/
def quo (n : Nat) (L : List Nat) : List Int := L.map fun p => ((n / p : Nat) : Int)
theorem quo_snoc (n : Nat) (L : List Nat) (d : Nat) : quo n (L ++ [d]) = quo n L ++ [((n / d : Nat) : Int)] := by simp [quo]

set_option maxRecDepth 100000 in
set_option maxHeartbeats 1000000 in
theorem divs_any (n : Nat) (w : World) (hn : 1 ≤ n) (hn2 : n ≤ 65536) : Calls Tryd.prog 47 #[.int .i64 n] w fun e w' => ∃ v L, e = .returned v ∧ Ow w.heap.size w' v (quo n L) ∧ PrL n L ∧ L.length ≤ 65536 ∧ Below w.heap.size w w' := by
  obtain ⟨i0, hi, hz0, hz1, hz2⟩ := info_parts infoI
  have HN1 := Lib.hid hn
  clear hn
  go_enter Tryd.func47, Tryd.ntmps47
  go_wp2
  go_loopw [3, 4, 5] (fun v rv dv wr => ∃ (r d : Nat) (L : List Nat), rv = .int .i64 r ∧ dv = .int .i64 d ∧ 2 ≤ d ∧ d ≤ n + 2 ∧ r ≤ n ∧ Hid (dfit n d r L) ∧ Hid (Ow w.heap.size wr v (quo n L)) ∧ Below w.heap.size w wr) (fun _ _ dv _ => n + 2 - (intOf dv).toNat)
  case atStart => exact ⟨n, 2, [], rfl, rfl, Nat.le_refl _, by omega, Nat.le_refl _, Lib.hid (dfit_start HN1.out), Lib.hid (Ow.nil _ _), Below.refl _ _⟩
  case round =>
    obtain ⟨r, d, L, rfl, rfl, hd2, hdn, hrn, hf, hO, hb⟩ := hrel
    have hr1 : 1 ≤ r := hf.out.1
    by_cases h1 : 1 < r
    · have hdr : d ≤ r := dfit_le hf.out h1
      by_cases hdv : r % d = 0
      · have hdd : d ∣ r := Nat.dvd_of_mod_eq_zero hdv
        have HP := Lib.hid (dfit_pr hf.out hd2 hdd)
        have HDD := Lib.hid hdd
        have D : ((r : Int) % (d : Int) != 0) = false := by rw [← Int.natCast_emod, hdv]; rfl
        have hO' := hO.out
        unfold Ow at hO'
        have hLl : L.length ≤ 65536 := by have := hf.out.2.2.2.2.2; omega
        have hq : (n : Int) / (d : Int) = ((n / d : Nat) : Int) := (Int.natCast_ediv n d).symm
        have hql : n / d ≤ n := Nat.div_le_self n d
        obtain ⟨Q, hQ⟩ : ∃ Q, Q = n / d := ⟨_, rfl⟩
        rw [← hQ] at hq hql
        have HQ := Lib.hid hQ
        clear hdd hdv hQ
        have hlen : (quo n L).length = L.length := by simp [quo]
        have HLEN := Lib.hid hlen
        clear hlen
        go_wp2_with (at_builtin; refine wpList_append_own _ rfl _ _ 55 rfl w.heap.size 3 i0 (.int .i64 0) 1 8 Tryd.underlying55 hi hz0 hz1 hz2 rfl (by decide) _ _ _ rfl (hO'.alloc _) ⟨wr.heap.size, 0, none⟩ 1 1 [.int .i64 Q] rfl rfl (cell_one_new _ _ _) (by simp [Value.oneCell']) (by rw [HLEN.out]; unfold maxLen; omega) (by rw [HLEN.out]; omega) (by have := hb.size; simp; omega) ?_; intro v' w1 hown' hgrow _; have hb2 : Below w.heap.size w w1 := (hb.alloc hb.size _).grown hgrow (by have := hb.size; simp; omega) (fun r e => (hO'.lt r e).1))
        have HO2 := Lib.hid (show Ow w.heap.size w1 v' (quo n (L ++ [d])) by rw [quo_snoc, ← HQ.out]; exact Ow.push hown')
        clear hO' hown' hgrow hO D hq HLEN
        obtain ⟨wo, hwo⟩ : ∃ W, W = wr := ⟨_, rfl⟩
        subst hwo
        go_loop [4] (fun rv => ∃ r' : Nat, rv = .int .i64 r' ∧ r' ≤ r ∧ Hid (ifit d r r')) (fun rv => (intOf rv).toNat)
        case atStart => exact ⟨r, rfl, Nat.le_refl _, Lib.hid (ifit_start hr1)⟩
        case round =>
          obtain ⟨r', rfl, hrr, hif⟩ := hrel
          have hr1' := hif.out.1
          by_cases hdv : r' % d = 0
          · have D : ((r' : Int) % (d : Int) == 0) = true := by rw [← Int.natCast_emod, hdv]; rfl
            have hq : (r' : Int) / (d : Int) = ((r' / d : Nat) : Int) := (Int.natCast_ediv r' d).symm
            obtain ⟨hn1, hn2⟩ := ifit_next HP.out hif.out (Nat.dvd_of_mod_eq_zero hdv)
            obtain ⟨Q2, hQ2⟩ : ∃ Q, Q = r' / d := ⟨_, rfl⟩
            rw [← hQ2] at hq hn1 hn2
            have HNX := Lib.hid hn1
            clear hdv hQ2 hn1
            go_wp2
            go_round
            case rel => exact ⟨Q2, rfl, by omega, HNX⟩
            case measure => simp [intOf]; omega
          · have D : ((r' : Int) % (d : Int) == 0) = false := by rw [← Int.natCast_emod]; simp; omega
            have HX := Lib.hid (dfit_next hf.out hd2 HDD.out hif.out fun h => hdv (Nat.mod_eq_zero_of_dvd h))
            clear hdv
            go_wp2
            go_roundw
            case rel => exact ⟨r', d + 1, L ++ [d], rfl, by go_num, by omega, by omega, by omega, HX, HO2, hb2⟩
            case measure => simp [intOf]; omega
      · have D : ((r : Int) % (d : Int) != 0) = true := by rw [← Int.natCast_emod]; simp; omega
        have HX := Lib.hid (dfit_skip hf.out fun h => hdv (Nat.mod_eq_zero_of_dvd h))
        clear hdv
        go_wp2
        go_roundw
        case rel => exact ⟨r, d + 1, L, rfl, by go_num, by omega, by omega, hrn, HX, hO, hb⟩
        case measure => simp [intOf]; omega
    · have hr : r = 1 := by omega
      subst hr
      have hl := hf.out.2.2.2.2.2
      have HE := Lib.hid (dfit_end hf.out)
      go_wp2
      go_ret
      exact ⟨_, L, rfl, hO.out, HE.out, by omega, hb⟩
end Go.Proofs.YtmenkahkdcjkiaaDoor
