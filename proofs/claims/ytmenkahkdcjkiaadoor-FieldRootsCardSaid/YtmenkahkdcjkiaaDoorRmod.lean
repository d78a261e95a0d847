/- The reference's Modulus is the table's. -/
import Derived.Test.YtmenkahkdcjkiaaDoorProg
import Derived.Test.YtmenkahkdcjkiaaDoorBase
import Derived.Test.YtmenkahkdcjkiaaDoorAri
import Derived.Test.YtmenkahkdcjkiaaDoorRdeg
namespace Go.Proofs.YtmenkahkdcjkiaaDoor
open Go.RowKit

def divB (m a : Nat) : Bool := (List.range 9).any fun d => decide (1 ≤ d ∧ 2 * d ≤ m) && (List.range (2 ^ d)).any fun c => remC (2 ^ d + c) d (m - d + 1) a == 0
def leastB (m : Nat) : Bool := (List.range (modl m - 2 ^ m)).all fun i => divB m (2 ^ m + i)
theorem leastB_all : ((List.range 17).all fun m => decide (m < 2) || leastB m) = true := by decide +kernel
/-- c divides a, and its degree is at most half of m -/
def Dv (m a c : Nat) : Prop := 2 ≤ c ∧ 2 * c.log2 ≤ m ∧ rem c.log2 c a = 0
theorem below_modl {m a : Nat} (h2 : 2 ≤ m) (hm : m ≤ 16) (ha : 2 ^ m ≤ a) (hlt : a < modl m) : ∃ c, Dv m a c := by
  have h := List.all_eq_true.1 leastB_all m (by rw [List.mem_range]; omega)
  rw [Bool.or_eq_true, decide_eq_true_iff] at h
  rcases h with h | h
  · omega
  · have h3 := List.all_eq_true.1 h (a - 2 ^ m) (by rw [List.mem_range]; omega)
    rw [show 2 ^ m + (a - 2 ^ m) = a from by omega] at h3
    obtain ⟨d, hd, h4⟩ := List.any_eq_true.1 h3
    rw [Bool.and_eq_true, decide_eq_true_iff] at h4
    obtain ⟨⟨d1, d2⟩, h5⟩ := h4
    obtain ⟨c, hc, h6⟩ := List.any_eq_true.1 h5
    rw [beq_iff_eq] at h6
    rw [List.mem_range] at hc
    have hdg : dg d (2 ^ d + c) := ⟨by omega, by rw [Nat.pow_succ]; omega⟩
    have h2d : 2 ^ 1 ≤ 2 ^ d := Nat.pow_le_pow_right (by omega) d1
    have hl : (2 ^ d + c).log2 = d := dg_uniq (dg_of_pos (by omega)) hdg
    refine ⟨2 ^ d + c, by omega, by rw [hl]; exact d2, ?_⟩
    rw [hl]
    have e := remC_eqv (2 ^ d + c) d (m - d + 1) a
    rw [h6] at e
    exact rem_eq hdg (Nat.two_pow_pos d) e
theorem no_modl {m c : Nat} (h2 : 2 ≤ m) (hm : m ≤ 16) : ¬ Dv m (modl m) c := fun ⟨hc, hl, e⟩ => by
  have hc0 : c ≠ 0 := by omega
  have he := rem_eqv (dg_of_pos hc0) (modl m)
  rw [e] at he
  obtain ⟨q, hq⟩ := he
  rw [Nat.xor_zero] at hq
  refine modl_irr m h2 hm c q ?_ (by omega) hq.symm
  have h1 := (dg_of_pos hc0).2
  have := Nat.pow_le_pow_right (n := 2) (by omega) (show c.log2 + 1 ≤ m by omega)
  omega
theorem log2_mono {a b : Nat} (ha : a ≠ 0) (h : a ≤ b) : a.log2 ≤ b.log2 := by
  by_cases hh : a.log2 ≤ b.log2
  · exact hh
  · have := Nat.pow_le_pow_right (n := 2) (by omega) (show b.log2 + 1 ≤ a.log2 by omega)
    have h1 := (dg_of_pos ha).1
    have h2 := (dg_of_pos (show b ≠ 0 by omega)).2
    omega
/-- what the inner loop keeps: irr, and what it says of all below b -/
def nfit (m a b : Nat) (irr : Bool) : Prop := (∀ c, c < b → 2 * c.log2 ≤ m ∨ c < 2) ∧ if irr then ∀ c, c < b → ¬ Dv m a c else ∃ c, Dv m a c
theorem nfit_start (m a : Nat) : nfit m a 2 true := ⟨fun c hc => .inr hc, by rw [if_pos rfl]; exact fun c hc h => by have := h.1; omega⟩
theorem nfit_next {m a b : Nat} (hb : 2 ≤ b) (hl : 2 * b.log2 ≤ m) (h : nfit m a b true) : nfit m a (b + 1) (decide (rem b.log2 b a ≠ 0)) := by
  obtain ⟨h1, h2⟩ := h
  rw [if_pos rfl] at h2
  refine ⟨fun c hc => ?_, ?_⟩
  · by_cases e : c = b
    · subst e; exact .inl hl
    · exact h1 c (by omega)
  · by_cases hr : rem b.log2 b a = 0
    · rw [decide_eq_false (by simpa using hr), if_neg (by simp)]
      exact ⟨b, hb, hl, hr⟩
    · rw [decide_eq_true hr, if_pos rfl]
      intro c hc hd
      by_cases e : c = b
      · subst e; exact hr hd.2.2
      · exact h2 c (by omega) hd
theorem nfit_lt {m a b : Nat} {irr : Bool} (hm : m ≤ 16) (h : nfit m a b irr) : b ≤ 512 := by
  by_cases hh : b ≤ 512
  · exact hh
  · rcases h.1 512 (by omega) with h | h
    · rw [show Nat.log2 512 = 9 from by decide +kernel] at h; omega
    · omega
theorem nfit_end {m a b : Nat} (hb : 2 ≤ b) (hl : m < 2 * b.log2) (h : nfit m a b true) : ¬ ∃ c, Dv m a c := fun ⟨c, hd⟩ => by
  have h2 := h.2
  rw [if_pos rfl] at h2
  by_cases hc : c < b
  · exact h2 c hc hd
  · have := log2_mono (show b ≠ 0 by omega) (show b ≤ c by omega)
    have := hd.2.1
    omega
set_option maxRecDepth 100000 in
set_option maxHeartbeats 2000000 in
theorem refmod_any (m : Nat) (w : World) (h2 : 2 ≤ m) (hm : m ≤ 16) : Calls Tryd.prog 11 #[.int .i64 m] w fun e w' => e = .returned (.int .i64 (modl m : Nat)) ∧ w = w' := by
  have hp := pow64 m hm
  have hdm := modl_dg m h2 hm
  have e : (2 : Int) ^ m = ((2 ^ m : Nat) : Int) := by rw [Int.natCast_pow]; rfl
  have h1 : 0 ≤ (2 : Int) ^ m := Int.le_of_lt (Int.pow_pos (by decide))
  have h3 : (2 : Int) ^ m ≤ 65536 := by rw [e]; exact Int.ofNat_le.2 hp
  have hmu : modl m < 131072 := by have := hdm.2; rw [Nat.pow_succ] at this; omega
  have HDM := Lib.hid hdm
  obtain ⟨S, hS⟩ : ∃ S, S = 2 ^ m := ⟨_, rfl⟩
  rw [← hS] at e hp
  have HS := Lib.hid hS
  obtain ⟨T, hT⟩ : ∃ T, T = modl m := ⟨_, rfl⟩
  rw [← hT] at hmu ⊢
  have HT := Lib.hid hT
  clear hS hdm hT
  go_enter Tryd.func11, Tryd.ntmps11
  go_wp2_with fail
  go_loop [3, 4, 5] (fun av _ _ => ∃ a : Nat, av = .int .i64 a ∧ S ≤ a ∧ a ≤ T) (fun av _ _ => T + 1 - (intOf av).toNat)
  case atStart => exact ⟨S, rfl, Nat.le_refl _, by rw [HS.out, HT.out]; exact HDM.out.1⟩
  case round =>
    obtain ⟨a, rfl, hSa, haT⟩ := hrel
    clear e h1 h3
    go_wp2_with fail
    go_loop [4, 5] (fun iv bv => ∃ (irr : Bool) (b : Nat), iv = .bool irr ∧ bv = .int .i64 b ∧ 2 ≤ b ∧ b ≤ 512 ∧ Hid (nfit m a b irr)) (fun _ bv => 600 - (intOf bv).toNat)
    case atStart => exact ⟨true, 2, rfl, rfl, Nat.le_refl _, by omega, Lib.hid (nfit_start m a)⟩
    case round =>
      obtain ⟨irr, b, rfl, rfl, hb2, hb5, hf⟩ := hrel
      have hdb : deg b = (b.log2 : Int) := if_neg (by omega)
      have hl31 := (deg_le (show b < 4294967296 by omega)).1
      rw [hdb] at hl31
      obtain ⟨lb, hlb⟩ : ∃ lb, lb = b.log2 := ⟨_, rfl⟩
      rw [← hlb] at hdb hl31
      have HDB := Lib.hid hdb
      have HLB := Lib.hid hlb
      clear hdb hlb
      go_wp2_with fail
      refine (degree_any b _ (by omega)).mono ?_
      rintro e w' ⟨rfl, rfl⟩
      rw [HDB.out]
      cases irr with
      | false =>
        have hex := hf.out.2
        rw [if_neg (by simp)] at hex
        have hne : a ≠ T := fun e => by
          obtain ⟨c, hc⟩ := hex
          rw [e, HT.out] at hc
          exact no_modl h2 hm hc
        have hlt : a < T := by omega
        clear hex hne
        by_cases hl : 2 * lb ≤ m
        · go_wp2_with fail
          go_round
          case rel => exact ⟨a + 1, by go_num, by omega, by omega⟩
          case measure => simp [intOf]; omega
        · go_wp2_with fail
          go_round
          case rel => exact ⟨a + 1, by go_num, by omega, by omega⟩
          case measure => simp [intOf]; omega
      | true =>
        by_cases hl : 2 * lb ≤ m
        · have HN := Lib.hid (nfit_next hb2 (by rw [← HLB.out]; exact hl) hf.out)
          go_wp2_with fail
          refine (rest_any a b _ (by omega) (by omega) (by omega)).mono ?_
          rintro e w' ⟨rfl, rfl⟩
          rw [← HLB.out] at HN ⊢
          obtain ⟨R, hR⟩ : ∃ R, R = rem lb b a := ⟨_, rfl⟩
          rw [← hR] at HN ⊢
          clear hR
          have HB5 := Lib.hid (nfit_lt hm HN.out)
          by_cases h0 : R = 0
          · subst h0
            go_wp2_with fail
            go_round
            case rel => exact ⟨false, b + 1, rfl, by go_num, by omega, HB5.out, HN⟩
            case measure => simp [intOf]; omega
          · have D : ((R : Int) != 0) = true := by simp; omega
            rw [decide_eq_true h0] at HN
            clear h0
            go_wp2_with fail
            go_round
            case rel => exact ⟨true, b + 1, rfl, by go_num, by omega, HB5.out, HN⟩
            case measure => simp [intOf]; omega
        · have HE := Lib.hid (nfit_end hb2 (by rw [← HLB.out]; omega) hf.out)
          have hTa : a = T := by
            by_cases hh : a = T
            · exact hh
            · exact absurd (below_modl h2 hm (by rw [← HS.out]; exact hSa) (by rw [← HT.out]; omega)) HE.out
          subst hTa
          go_wp2_with fail
          go_ret
          exact ⟨rfl, rfl⟩
end Go.Proofs.YtmenkahkdcjkiaaDoor
